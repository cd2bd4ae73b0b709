import Derived.Test.YtbjidpooociamaaDoorG2
import Derived.Test.YtbjidpooociamaaDoorC19
set_option linter.unusedVariables false
set_option linter.unusedSimpArgs false
namespace Go.Proofs.YtbjidpooociamaaDoor
open Go.RowKit Lb
/-- What a call answers: a natural of so many limbs at most. -/
def Few (w w' : World) (e : Ending) (n K : Nat) : Prop := ∃ a c l, e = .returned (.slice a (List.length l) c) ∧ l.length ≤ c ∧ Rd w' a l ∧ Lim l ∧ Nrm l ∧ Hid (val l = n) ∧ l.length ≤ K ∧ Keep w w'
theorem sum_lt {la lb : List Nat} (ha : Lim la) (hb : Lim lb) : val la + val lb < 4294967296 ^ (la.length + lb.length + 1) := by
  have h1 := val_lt ha
  have h2 := val_lt hb
  have h3 : 4294967296 ^ la.length ≤ 4294967296 ^ (la.length + lb.length) := Nat.pow_le_pow_right (by omega) (by omega)
  have h4 : 4294967296 ^ lb.length ≤ 4294967296 ^ (la.length + lb.length) := Nat.pow_le_pow_right (by omega) (by omega)
  rw [Nat.pow_succ]
  omega
theorem mul_lt {la lb : List Nat} (ha : Lim la) (hb : Lim lb) : val la * val lb < 4294967296 ^ (la.length + lb.length) := by
  rw [Nat.pow_add]
  exact Nat.mul_lt_mul_of_lt_of_le (val_lt ha) (Nat.le_of_lt (val_lt hb)) (Nat.pos_of_ne_zero (by simp))
theorem Few.of {w w' : World} {v : Value} {n K : Nat} (h : NatR w.heap.size w' v n) (hK : n < 4294967296 ^ K) (k : Keep w w') : Few w w' (.returned v) n K := by
  obtain ⟨a, c, l, rfl, hc, r, m, p, e, -⟩ := h.shape
  exact ⟨a, c, l, rfl, hc, r, m, p, e, len_le_pow p K (by rw [e]; exact hK), k⟩
theorem Add_few (a b : Option Addr) (ca cb : Nat) (la lb : List Nat) (w : World) (hca : la.length ≤ ca) (hcb : lb.length ≤ cb) (hla : la.length ≤ 70368744177663) (hlb : lb.length ≤ 70368744177663) (hra : Rd w a la) (hrb : Rd w b lb) (hma : Lim la) (hmb : Lim lb) :
    Calls Tryd.prog 33 #[.slice a la.length ca, .slice b lb.length cb] w fun e w' => Few w w' e (val la + val lb) (la.length + lb.length + 1) := by
  refine (Add_any a b ca cb la lb w hca hcb hla hlb hra hrb hma hmb).mono ?_
  rintro e w' ⟨v, rfl, n, k⟩
  exact Few.of n (sum_lt hma hmb) k
theorem Mul_few (a b : Option Addr) (ca cb : Nat) (la lb : List Nat) (w : World) (hca : la.length ≤ ca) (hcb : lb.length ≤ cb) (hla : la.length ≤ 35184372088832) (hlb : lb.length ≤ 35184372088832) (hra : Rd w a la) (hrb : Rd w b lb) (hma : Lim la) (hmb : Lim lb) :
    Calls Tryd.prog 35 #[.slice a la.length ca, .slice b lb.length cb] w fun e w' => Few w w' e (val la * val lb) (la.length + lb.length) := by
  refine (Mul_any a b ca cb la lb w hca hcb hla hlb hra hrb hma hmb).mono ?_
  rintro e w' ⟨v, rfl, n, k⟩
  exact Few.of n.natR (mul_lt hma hmb) k
theorem Cmp_val (a b : Option Addr) (ca cb : Nat) (la lb : List Nat) (w : World) (hca : la.length ≤ ca) (hcb : lb.length ≤ cb) (hla : la.length ≤ 70368744177664) (hlb : lb.length ≤ 70368744177664) (hra : Rd w a la) (hrb : Rd w b lb) (hma : Lim la) (hmb : Lim lb) :
    Calls Tryd.prog 21 #[.slice a la.length ca, .slice b lb.length cb] w fun e w' => e = .returned (.int .i64 (cmpN (val la) (val lb))) ∧ Keep w w' := by
  have h := Cmp_any a b ca cb la lb w hca hcb hla hlb hra hrb
  rw [cmpL_eq _ _ (Lim_take hma _) (Lim_take hmb _) (Nrm_take la) (Nrm_take lb), val_take_nl, val_take_nl] at h
  refine h.mono ?_
  rintro e w' ⟨rfl, d⟩
  exact ⟨rfl, d.keep⟩
theorem cmpN_self {x y : Nat} (h : x = y) : cmpN x y = 0 := by subst h; simp [cmpN]
theorem cmpN_less {x y : Nat} (h : x < y) : cmpN x y = -1 := by simp [cmpN, h]
theorem Cmp_one (a b : Option Addr) (ca cb : Nat) (la lb : List Nat) (w : World) (hca : la.length ≤ ca) (hcb : lb.length ≤ cb) (hla : la.length ≤ 70368744177664) (hlb : lb.length ≤ 70368744177664) (hra : Rd w a la) (hrb : Rd w b lb) (hma : Lim la) (hmb : Lim lb) (he : val la = val lb) :
    Calls Tryd.prog 21 #[.slice a la.length ca, .slice b lb.length cb] w fun e w' => e = .returned (.int .i64 0) ∧ Keep w w' := by
  have h := Cmp_val a b ca cb la lb w hca hcb hla hlb hra hrb hma hmb
  rwa [cmpN_self he] at h
theorem numv_dw : ∀ k n, numv (dw k n) = n % 10 ^ k
  | 0, n => by simp [dw, numv, Nat.mod_one]
  | k + 1, n => by
    rw [dw, numv_snoc, numv_dw k (n / 10), Nat.pow_succ, Nat.mul_comm (10 ^ k) 10, Nat.mod_mul]
    omega
theorem numv_cut0 (l : List Nat) : numv (cut0 l) = numv l := by
  induction l with
  | nil => rfl
  | cons x xs ih =>
    unfold cut0
    rw [List.dropWhile_cons]
    split
    · rename_i h
      have hx : x = 48 := by simpa using h
      subst hx
      have h3 := numv_append [48] xs
      simp only [List.singleton_append] at h3
      rw [h3]
      have : numv [48] = 0 := rfl
      rw [this]
      simp only [Nat.zero_mul, Nat.zero_add]
      exact ih
    · rfl
theorem dec_num (n : Nat) : numv (dec n) = n := by
  unfold dec
  split
  · rename_i h; subst h; rfl
  · rw [numv_cut0, numv_dw, Nat.mod_eq_of_lt (lt_pow n)]
theorem dec_digits (n : Nat) : ∀ x ∈ dec n, 48 ≤ x ∧ x < 58 := by
  intro x hx
  unfold dec at hx
  split at hx
  · simp at hx; omega
  · exact dw_range _ _ x (List.dropWhile_subset _ hx)
theorem dec_ne (n : Nat) : dec n ≠ [] := by
  unfold dec
  split
  · simp
  · exact cut0_ne n n (by omega) (lt_pow n)
theorem lenB_top (l : List Nat) (hm : Lim l) : lenB l ≤ 32 * l.length := by
  unfold lenB
  split
  · omega
  · rename_i h
    have h1 := nl_le l
    have h2 : l.getD (nl l - 1) 0 < 4294967296 := by
      have h3 : nl l - 1 < l.length := by omega
      have : l.getD (nl l - 1) 0 ∈ l := by simp [List.getD, h3]
      exact hm _ this
    have := bitLen_le _ h2
    omega
set_option maxRecDepth 100000 in
set_option maxHeartbeats 1600000 in
theorem law_laws (a b c : Option Addr) (ca cb cc : Nat) (la lb lc : List Nat) (w : World) (hca : la.length ≤ ca) (hcb : lb.length ≤ cb) (hcc : lc.length ≤ cc) (hs : la.length + lb.length + lc.length ≤ 1048576) (hra : Rd w a la) (hrb : Rd w b lb) (hrc : Rd w c lc) (hma : Lim la) (hmb : Lim lb) (hmc : Lim lc) :
    Calls Tryd.prog 10 #[.slice a la.length ca, .slice b lb.length cb, .slice c lc.length cc] w fun e w' => e = .returned (.bool true) ∧ Keep w w' := by
  have hlenB : lenB la ≤ 1099511627776 := Nat.le_trans (lenB_top la hma) (by omega)
  have hlenD : (dec (val la)).length ≤ 1099511627776 := Nat.le_trans (dec_lenB la hma) (by have := lenB_top la hma; omega)
  go_enter Tryd.func10, Tryd.ntmps10
  go_wp2_with fail
  refine (lives_any w).mono ?_
  rintro e w1 ⟨rfl, k1⟩
  have K1 := k1
  go_wp2_with fail
  refine (Add_few a b ca cb la lb w1 hca hcb (by omega) (by omega) (hra.keep K1) (hrb.keep K1) hma hmb).mono ?_
  rintro e w2 ⟨aab, cab, lab, rfl, hcab, rab, mab, pab, eab, zab, k2⟩
  have K2 := K1.trans k2
  go_wp2_with fail
  refine (Add_few b a cb ca lb la w2 hcb hca (by omega) (by omega) (hrb.keep K2) (hra.keep K2) hmb hma).mono ?_
  rintro e w3 ⟨aba, cba, lba, rfl, hcba, rba, mba, pba, eba, zba, k3⟩
  have K3 := K2.trans k3
  have rab := rab.keep k3
  have hC := Cmp_one aab aba cab cba lab lba w3 hcab hcba (by omega) (by omega) rab rba mab mba (by rw [eab.out, eba.out]; exact Nat.add_comm _ _)
  go_wp2_with fail
  refine hC.mono ?_
  rintro e w4 ⟨rfl, k4⟩
  clear hC
  have K4 := K3.trans k4
  clear rab eab rba eba
  go_wp2_with fail
  refine (Mul_few a b ca cb la lb w4 hca hcb (by omega) (by omega) (hra.keep K4) (hrb.keep K4) hma hmb).mono ?_
  rintro e w5 ⟨ap1, cp1, lp1, rfl, hcp1, rp1, mp1, pp1, ep1, zp1, k5⟩
  have K5 := K4.trans k5
  go_wp2_with fail
  refine (Mul_few b a cb ca lb la w5 hcb hca (by omega) (by omega) (hrb.keep K5) (hra.keep K5) hmb hma).mono ?_
  rintro e w6 ⟨ap2, cp2, lp2, rfl, hcp2, rp2, mp2, pp2, ep2, zp2, k6⟩
  have K6 := K5.trans k6
  have rp1 := rp1.keep k6
  have hC := Cmp_one ap1 ap2 cp1 cp2 lp1 lp2 w6 hcp1 hcp2 (by omega) (by omega) rp1 rp2 mp1 mp2 (by rw [ep1.out, ep2.out]; exact Nat.mul_comm _ _)
  go_wp2_with fail
  refine hC.mono ?_
  rintro e w7 ⟨rfl, k7⟩
  clear hC
  have K7 := K6.trans k7
  clear rp1 ep1 rp2 ep2
  go_wp2_with fail
  refine (Add_few b c cb cc lb lc w7 hcb hcc (by omega) (by omega) (hrb.keep K7) (hrc.keep K7) hmb hmc).mono ?_
  rintro e w8 ⟨abc, cbc, lbc, rfl, hcbc, rbc, mbc, pbc, ebc, zbc, k8⟩
  have K8 := K7.trans k8
  go_wp2_with fail
  refine (Mul_few a abc ca cbc la lbc w8 hca hcbc (by omega) (by omega) (hra.keep K8) rbc hma mbc).mono ?_
  rintro e w9 ⟨aq1, cq1, lq1, rfl, hcq1, rq1, mq1, pq1, eq1, zq1, k9⟩
  have K9 := K8.trans k9
  have rbc := rbc.keep k9
  go_wp2_with fail
  refine (Mul_few a b ca cb la lb w9 hca hcb (by omega) (by omega) (hra.keep K9) (hrb.keep K9) hma hmb).mono ?_
  rintro e w10 ⟨aq2, cq2, lq2, rfl, hcq2, rq2, mq2, pq2, eq2, zq2, k10⟩
  have K10 := K9.trans k10
  have rbc := rbc.keep k10
  have rq1 := rq1.keep k10
  go_wp2_with fail
  refine (Mul_few a c ca cc la lc w10 hca hcc (by omega) (by omega) (hra.keep K10) (hrc.keep K10) hma hmc).mono ?_
  rintro e w11 ⟨aq3, cq3, lq3, rfl, hcq3, rq3, mq3, pq3, eq3, zq3, k11⟩
  have K11 := K10.trans k11
  have rbc := rbc.keep k11
  have rq1 := rq1.keep k11
  have rq2 := rq2.keep k11
  go_wp2_with fail
  refine (Add_few aq2 aq3 cq2 cq3 lq2 lq3 w11 hcq2 hcq3 (by omega) (by omega) rq2 rq3 mq2 mq3).mono ?_
  rintro e w12 ⟨aq4, cq4, lq4, rfl, hcq4, rq4, mq4, pq4, eq4, zq4, k12⟩
  have K12 := K11.trans k12
  have rbc := rbc.keep k12
  have rq1 := rq1.keep k12
  have rq2 := rq2.keep k12
  have rq3 := rq3.keep k12
  have hC := Cmp_one aq1 aq4 cq1 cq4 lq1 lq4 w12 hcq1 hcq4 (by omega) (by omega) rq1 rq4 mq1 mq4 (by rw [eq1.out, ebc.out, eq4.out, eq2.out, eq3.out]; exact Nat.mul_add _ _ _)
  go_wp2_with fail
  refine hC.mono ?_
  rintro e w13 ⟨rfl, k13⟩
  clear hC
  have K13 := K12.trans k13
  clear rbc ebc rq1 eq1 rq2 eq2 rq3 eq3 rq4 eq4
  go_wp2_with fail
  refine (Mul_few a b ca cb la lb w13 hca hcb (by omega) (by omega) (hra.keep K13) (hrb.keep K13) hma hmb).mono ?_
  rintro e w14 ⟨as1, cs1, ls1, rfl, hcs1, rs1, ms1, ps1, es1, zs1, k14⟩
  have K14 := K13.trans k14
  go_wp2_with fail
  refine (Mul_few as1 c cs1 cc ls1 lc w14 hcs1 hcc (by omega) (by omega) rs1 (hrc.keep K14) ms1 hmc).mono ?_
  rintro e w15 ⟨as2, cs2, ls2, rfl, hcs2, rs2, ms2, ps2, es2, zs2, k15⟩
  have K15 := K14.trans k15
  have rs1 := rs1.keep k15
  go_wp2_with fail
  refine (Mul_few b c cb cc lb lc w15 hcb hcc (by omega) (by omega) (hrb.keep K15) (hrc.keep K15) hmb hmc).mono ?_
  rintro e w16 ⟨as3, cs3, ls3, rfl, hcs3, rs3, ms3, ps3, es3, zs3, k16⟩
  have K16 := K15.trans k16
  have rs1 := rs1.keep k16
  have rs2 := rs2.keep k16
  go_wp2_with fail
  refine (Mul_few a as3 ca cs3 la ls3 w16 hca hcs3 (by omega) (by omega) (hra.keep K16) rs3 hma ms3).mono ?_
  rintro e w17 ⟨as4, cs4, ls4, rfl, hcs4, rs4, ms4, ps4, es4, zs4, k17⟩
  have K17 := K16.trans k17
  have rs1 := rs1.keep k17
  have rs2 := rs2.keep k17
  have rs3 := rs3.keep k17
  have hC := Cmp_one as2 as4 cs2 cs4 ls2 ls4 w17 hcs2 hcs4 (by omega) (by omega) rs2 rs4 ms2 ms4 (by rw [es2.out, es1.out, es4.out, es3.out]; exact Nat.mul_assoc _ _ _)
  go_wp2_with fail
  refine hC.mono ?_
  rintro e w18 ⟨rfl, k18⟩
  clear hC
  have K18 := K17.trans k18
  clear rs1 es1 rs2 es2 rs3 es3 rs4 es4
  go_wp2_with fail
  refine (Add_few a b ca cb la lb w18 hca hcb (by omega) (by omega) (hra.keep K18) (hrb.keep K18) hma hmb).mono ?_
  rintro e w19 ⟨at1, ct1, lt1, rfl, hct1, rt1, mt1, pt1, et1, zt1, k19⟩
  have K19 := K18.trans k19
  have hS := Sub_any at1 b ct1 cb lt1 lb w19 hct1 hcb (by omega) (by omega) rt1 (hrb.keep K19) mt1 hmb
  have hge : val lb ≤ val lt1 := by rw [et1.out]; omega
  have hT : Hid (val lt1 - val lb = val la) := by show _ = _; rw [et1.out]; omega
  go_wp2_with fail
  refine hS.mono ?_
  rintro e w20 ⟨hor, k20⟩
  clear hS
  obtain ⟨v, rfl, hn⟩ : ∃ v, e = .returned (.tuple #[v, .int .i64 0]) ∧ NatR w19.heap.size w20 v (val lt1 - val lb) := by rcases hor with ⟨h, -⟩ | ⟨-, h⟩; omega; exact h
  obtain ⟨ad, cd, ld, rfl, hcd, rd, md, pd, ed, -⟩ := hn.shape
  have ed : Hid (val ld = val la) := ed.trans hT.out
  have zd : ld.length ≤ la.length := len_le_pow pd _ (by rw [ed.out]; exact val_lt hma)
  clear hor hn hge hT et1
  have K20 := K19.trans k20
  have hC := Cmp_one ad a cd ca ld la w20 hcd hca (by omega) (by omega) rd (hra.keep K20) md hma (ed.out)
  go_wp2_with fail
  refine hC.mono ?_
  rintro e w21 ⟨rfl, k21⟩
  clear hC
  have K21 := K20.trans k21
  clear rd ed
  by_cases hb0 : nl lb = 0
  · have hlb0 : lenB lb = 0 := by unfold lenB; rw [if_pos hb0]
    have hD := DivMod_nought a b ca cb la lb w21 hca hcb (by omega) (by omega) (hra.keep K21) (hrb.keep K21) hb0
    go_wp2_with fail
    refine hD.mono ?_
    rintro e w22 ⟨rfl, k22⟩
    have K22 := K21.trans k22
    have hLn := Len_any b cb lb w22 hcb (by omega) (hrb.keep K22) hmb
    rw [hlb0] at hLn
    go_wp2_with fail
    refine hLn.mono ?_
    rintro e w23 ⟨rfl, d23⟩
    have K23 := K22.trans d23.keep
    clear hD hLn
    have hP := Print_any a ca la w23 hca (by omega) (hra.keep K23) hma hlenB
    go_wp2_with fail
    refine hP.mono ?_
    rintro e w24 ⟨rfl, k24⟩
    have K24 := K23.trans k24
    clear hP
    have hR := Read_any (dec (val la)) w24 (dec_digits _) (dec_ne _) hlenD
    rw [dec_num] at hR
    go_wp2_with fail
    refine hR.mono ?_
    rintro e w25 ⟨v, rfl, hn, k25⟩
    have K25 := K24.trans k25
    clear hR
    obtain ⟨an, cn, ln, rfl, hcn, rn, mn, pn, en, -⟩ := hn.shape
    have zn : ln.length ≤ la.length := len_le_pow pn _ (by rw [en]; exact val_lt hma)
    have hC := Cmp_one an a cn ca ln la w25 hcn hca (by omega) (by omega) rn (hra.keep K25) mn hma en
    clear en hn
    go_wp2_with fail
    refine hC.mono ?_
    rintro e w26 ⟨rfl, k26⟩
    go_wp2_with fail
    go_ret
    exact ⟨rfl, K25.trans k26⟩
  · have hv0 : 0 < val lb := by
      have := val_ge_len lb hb0
      exact Nat.lt_of_lt_of_le (Nat.pos_of_ne_zero (by simp)) this
    have hlb0 : lenB lb ≠ 0 := by
      intro h
      have := val_lt_len lb hmb
      rw [h] at this
      simp at this
      omega
    have hD := DivMod_any a b ca cb la lb w21 hca hcb (by omega) (by omega) (hra.keep K21) (hrb.keep K21) hma hmb hv0
    go_wp2_with fail
    refine hD.mono ?_
    rintro e w22 ⟨vq, vr, rfl, nq, nr, k22⟩
    have K22 := K21.trans k22
    obtain ⟨aq, cq, lq, rfl, hcq, rq, mq, pq, eq, -⟩ := nq.shape
    obtain ⟨ar, cr, lr, rfl, hcr, rr, mr, pr, er, -⟩ := nr.shape
    have zq : lq.length ≤ la.length := len_le_pow pq _ (by rw [eq]; exact Nat.lt_of_le_of_lt (Nat.div_le_self _ _) (val_lt hma))
    have zr : lr.length ≤ la.length := len_le_pow pr _ (by rw [er]; exact Nat.lt_of_le_of_lt (Nat.mod_le _ _) (val_lt hma))
    have eq : Hid (val lq = val la / val lb) := eq
    have er : Hid (val lr = val la % val lb) := er
    clear hD nq nr
    have hLn := Len_any b cb lb w22 hcb (by omega) (hrb.keep K22) hmb
    generalize lenB lb = nb at hLn hlb0
    have hdn : decide ((nb : Int) = 0) = false := by simp; exact hlb0
    go_wp2_with fail
    refine hLn.mono ?_
    rintro e w23 ⟨rfl, d23⟩
    have K23 := K22.trans d23.keep
    have rq := rq.keep d23.keep
    have rr := rr.keep d23.keep
    clear hLn
    go_wp2_with fail
    refine (Mul_few aq b cq cb lq lb w23 hcq hcb (by omega) (by omega) rq (hrb.keep K23) mq hmb).mono ?_
    rintro e w24 ⟨ax, cx, lx, rfl, hcx, rx, mx, px, ex, zx, k24⟩
    have K24 := K23.trans k24
    have rr := rr.keep k24
    go_wp2_with fail
    refine (Add_few ax ar cx cr lx lr w24 hcx hcr (by omega) (by omega) rx rr mx mr).mono ?_
    rintro e w25 ⟨ay, cy, ly, rfl, hcy, ry, my, py, ey, zy, k25⟩
    have K25 := K24.trans k25
    have rr := rr.keep k25
    have hC := Cmp_one ay a cy ca ly la w25 hcy hca (by omega) (by omega) ry (hra.keep K25) my hma (by rw [ey.out, ex.out, eq.out, er.out, Nat.mul_comm]; exact Nat.div_add_mod _ _)
    go_wp2_with fail
    refine hC.mono ?_
    rintro e w26 ⟨rfl, k26⟩
    clear hC
    have K26 := K25.trans k26
    have rr := rr.keep k26
    have hC := Cmp_val ar b cr cb lr lb w26 hcr hcb (by omega) (by omega) rr (hrb.keep K26) mr hmb
    rw [cmpN_less (by rw [er.out]; exact Nat.mod_lt _ hv0)] at hC
    go_wp2_with fail
    refine hC.mono ?_
    rintro e w27 ⟨rfl, k27⟩
    clear hC rq rr rx ry
    have K27 := K26.trans k27
    have hP := Print_any a ca la w27 hca (by omega) (hra.keep K27) hma hlenB
    go_wp2_with fail
    refine hP.mono ?_
    rintro e w28 ⟨rfl, k28⟩
    have K28 := K27.trans k28
    clear hP
    have hR := Read_any (dec (val la)) w28 (dec_digits _) (dec_ne _) hlenD
    rw [dec_num] at hR
    go_wp2_with fail
    refine hR.mono ?_
    rintro e w29 ⟨v, rfl, hn, k29⟩
    have K29 := K28.trans k29
    clear hR
    obtain ⟨an, cn, ln, rfl, hcn, rn, mn, pn, en, -⟩ := hn.shape
    have zn : ln.length ≤ la.length := len_le_pow pn _ (by rw [en]; exact val_lt hma)
    have hC := Cmp_one an a cn ca ln la w29 hcn hca (by omega) (by omega) rn (hra.keep K29) mn hma en
    clear en hn
    go_wp2_with fail
    refine hC.mono ?_
    rintro e w30 ⟨rfl, k30⟩
    go_wp2_with fail
    go_ret
    exact ⟨rfl, K29.trans k30⟩
end Go.Proofs.YtbjidpooociamaaDoor
