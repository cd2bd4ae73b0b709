import Derived.Test.YtpdjpjkieafnbaaGreatDoorW5
import Derived.Test.YtpdjpjkieafnbaaGreatDoorOO
import Derived.Test.YtpdjpjkieafnbaaGreatDoorH5
import Derived.Test.YtpdjpjkieafnbaaGreatDoorR11
import Derived.Test.YtpdjpjkieafnbaaGreatDoorS3
set_option linter.unusedVariables false
set_option linter.unusedSimpArgs false
namespace Go.Proofs.YtpdjpjkieafnbaaGreatDoor.Li
open Go.RowKit Lb Nr
theorem lv_ten (w : World) : Lv (w.alloc (.cells #[.int .u32 10] 40)) (.slice (some ⟨w.heap.size, 0, none⟩) 1 1) 10 2 := by
  refine ⟨some ⟨w.heap.size, 0, none⟩, 1, [10], rfl, by simp, by simp, ?_, by intro x hx; simp at hx; omega, rfl⟩
  intro j hj
  have hj0 : j = 0 := by simp at hj; exact hj
  subst hj0
  refine ⟨w.heap.size, 0, rfl, ?_⟩
  rw [cell_of_row _ _ 0 _ 40 (0, 0) (heap_alloc_new w _)]
  rfl
/-- The two quotients are one. -/
theorem whole_one {b : Nat} {T : List UInt8} (hq : qB b = false) (h : ExT b T) :
    nat (ws T).d / Nat.gcd (nat (ws T).d) (10 ^ (ws T).k) = qN b ∧ 10 ^ (ws T).k / Nat.gcd (nat (ws T).d) (10 ^ (ws T).k) = qD b ∧ (!(decide (nat (ws T).d = 0)) && pNeg b) = qS b := by
  have hp : 0 < 10 ^ (ws T).k := Nat.pow_pos (by omega)
  have hy : 0 < qY b := by unfold qY; rw [Nat.one_mul]; exact Nat.two_pow_pos _
  obtain ⟨a1, a2⟩ := low_one (N := nat (ws T).d) (D := 10 ^ (ws T).k) (N' := qX b) (D' := qY b) hp hy h.cr
  have h0 : nat (ws T).d = 0 ↔ qX b = 0 := by
    have := h.cr
    constructor
    · intro g
      rw [g, Nat.zero_mul] at this
      rcases Nat.mul_eq_zero.1 this.symm with c | c
      · exact c
      · omega
    · intro g
      rw [g, Nat.zero_mul] at this
      rcases Nat.mul_eq_zero.1 this with c | c
      · exact c
      · omega
  unfold qN qD qS
  rw [hq]
  refine ⟨a1, a2, ?_⟩
  simp only [h0]
  simp
set_option maxRecDepth 100000 in
set_option maxHeartbeats 4000000 in
theorem law_whole (b : Nat) (hb : b < 18446744073709551616) (w : World) (hT : Bi.Tab w) :
    Calls Tryz.prog 9 #[.int .u64 (b : Nat)] w fun e w' => e = .returned (.bool true) ∧ Keep w w' := by
  have hB := fun wx => begins_any wx
  have h19 := fun wx => f64from b wx
  have hE := fun wx (kx : Keep w wx) => Exact_all b hb wx (hT.keep kx)
  have hQ := fun wx => Quotient_own b hb wx
  have bn := qN_lt b
  have bd := qD_lt b
  cases hq : qB b with
  | true =>
    have hz : qZ b = 60 := by unfold qZ; rw [hq]; rfl
    rw [hz] at hQ
    go_enter Tryz.func9, Tryz.ntmps9
    go_wp2_with fail
    refine (hB _).mono ?_
    rintro e w1 ⟨rfl, k1⟩
    go_wp2_with fail
    refine (hE _ k1).mono ?_
    rintro e w2 ⟨X, rfl, k2, hX, -⟩
    have hX := hX hq
    go_wp2_with fail
    refine (hQ _).mono ?_
    rintro e w3 ⟨M, va, vb, rfl, m1, m2, qa, qb, k3⟩
    obtain ⟨aa, ca, la, rfl, -⟩ := qa.open
    obtain ⟨ab, cb, lb, rfl, -⟩ := qb.open
    clear qa qb hE hQ hB
    rcases hX with rfl | rfl | rfl
    all_goals
      go_wp2_with fail
      go_ret
      exact ⟨rfl, ((k1.trans k2).trans k3).alloc _⟩
  | false =>
    have hz : qZ b = 0 := by unfold qZ; rw [hq]; rfl
    rw [hz] at hQ
    go_enter Tryz.func9, Tryz.ntmps9
    go_wp2_with fail
    refine (hB _).mono ?_
    rintro e w1 ⟨rfl, k1⟩
    go_wp2_with fail
    refine (hE _ k1).mono ?_
    rintro e w2 ⟨X, rfl, k2, -, hX⟩
    obtain ⟨T, hXe, hXT⟩ := hX hq
    clear hX
    obtain ⟨u1, u2, u3⟩ := whole_one hq hXT
    have HX : Hid (ExT b T) := hXT
    obtain ⟨c, R, hcT, hc⟩ := hXT.hd
    have hTl := hXT.len
    have hdl := (ws_len T).1
    have hkl := (ws_len T).2
    have hRd := fun wx => Read_lv (ws T).d wx hXT.dg hXT.ne (by omega)
    have hPw := fun v wx h => Pow10_lv v (ws T).k wx h (by omega)
    have hOv := fun v1 v2 wx h1 h2 => Over_own (pNeg b) v1 v2 (nat (ws T).d) (10 ^ (ws T).k) 2001 wx h1 h2 (by omega) (Nat.pow_pos (by omega))
    rw [u1, u2, u3] at hOv
    have hT0 : 0 < T.length := by rw [hcT]; simp
    have hg0 : T.getD 0 0 = c := by rw [hcT]; rfl
    have hc45 : ((c.toNat : Int) == 45) = false := by
      rw [beq_eq_false_iff_ne]
      intro q
      have h1 : 48 ≤ c.toNat := (of_decide_eq_true hc).1
      omega
    have hszT : (ByteArray.mk T.toArray).size = T.length := sz_mk T
    have hix : (((ByteArray.mk T.toArray)[0]'(by rw [hszT]; exact hT0)).toNat : Int) = (c.toNat : Int) := by
      subst hcT
      rfl
    have hng : pNeg b = decide (9223372036854775808 ≤ b) := rfl
    have hfr : ∀ wx, (Instr.slice 9 (.string ⟨(45 :: T).toArray⟩) (some (.int .i64 1)) none none).run Tryz.prog wx = .ok (.string ⟨T.toArray⟩) wx := fun wx => run_from (45 :: T) 1 (by simp) wx
    have hix2 : ∀ wx, (Instr.index 9 (.string ⟨(45 :: T).toArray⟩) (.int .i64 0)).run Tryz.prog wx = .ok (.int .u8 45) wx := fun wx => run_ix (45 :: T) 0 (by simp) wx
    have hszY : (ByteArray.mk (45 :: T).toArray).size = T.length + 1 := by rw [sz_mk]; simp
    obtain ⟨Y, hY⟩ : ∃ Y, (45 :: T) = Y := ⟨_, rfl⟩
    rw [hY] at hfr hix2 hszY
    have hTpos : (0 : Int) < (T.length : Int) := by omega
    have hXe2 : Hid (X = if pNeg b then Y else T) := by
      unfold Hid
      rw [hXe, ← hY]
      cases pNeg b <;> rfl
    clear hXT u1 u2 u3 hXe hcT hg0 hc hY hdl
    go_wp2_with fail
    refine (hQ _).mono ?_
    rintro e w3 ⟨M, va, vb, rfl, m1, m2, qa, qb, k3⟩
    obtain ⟨aa, ca, la, rfl, la1, la2, la3, ra, oa, lca⟩ := qa.open
    obtain ⟨ab, cb, lb, rfl, lb1, lb2, lb3, rb, ob, lcb⟩ := qb.open
    have ha40 : la.length ≤ 40 := len_of la2 (by rw [la3]; exact bn)
    have hb40 : lb.length ≤ 40 := len_of lb2 (by rw [lb3]; exact bd)
    obtain ⟨s, hs⟩ : ∃ s, qS b = s := ⟨_, rfl⟩
    rw [hs] at hOv
    rw [hs]
    obtain ⟨w4, hw4⟩ : ∃ w4, w3.alloc (.cells #[.bool s, .slice aa la.length ca, .slice ab lb.length cb] 54) = w4 := ⟨_, rfl⟩
    have k4 : Keep w3 w4 := by rw [← hw4]; exact (Keep.refl w3).alloc _
    have B4 : Box w4 w3.heap.size (.bool s) (.slice aa la.length ca) (.slice ab lb.length cb) := by rw [← hw4]; exact Box.new w3 _ _ _
    have HB4 : Hid (Box w4 w3.heap.size (.bool s) (.slice aa la.length ca) (.slice ab lb.length cb) ∧ Rd w4 aa la ∧ Rd w4 ab lb) := ⟨B4, ra.rd.keep k4, rb.rd.keep k4⟩
    have K4 : Hid (Keep w w4) := ((k1.trans k2).trans k3).trans k4
    have HLA : Hid (Lim la ∧ Nrm la ∧ val la = qN b) := ⟨la1, la2, la3⟩
    have HLB : Hid (Lim lb ∧ Nrm lb ∧ val lb = qD b) := ⟨lb1, lb2, lb3⟩
    have hbs : (pNeg b = true ∧ (b : Int) / 9223372036854775808 = 1) ∨ (pNeg b = false ∧ (b : Int) / 9223372036854775808 = 0) := by
      by_cases g : 9223372036854775808 ≤ b
      · exact .inl ⟨decide_eq_true g, by omega⟩
      · exact .inr ⟨decide_eq_false g, by omega⟩
    clear k1 k2 k3 k4 B4 qa qb ra rb oa ob lca lcb la1 la2 la3 lb1 lb2 lb3 bn bd hQ hE hB hs m1 m2 hz hq hng
    have hOv' : Hid _ := hOv
    have hRd' : Hid _ := hRd
    have hPw' : Hid _ := hPw
    clear hOv hRd hPw
    rcases hbs with ⟨hn, hsh⟩ | ⟨hn, hsh⟩
    · have hXX : X = Y := by rw [hXe2.out, hn]; rfl
      rw [hn] at hOv'
      subst hXX
      clear hXe2 hn
      go_wp2_with fail
      go_loopg [8, 9, 10, 11] (T.length) (fun g v8 v9 v10 v11 wr => ∃ i : Nat, i + g = T.length ∧ v8 = .string ⟨(ws (T.take i)).d.toArray⟩ ∧ v9 = .int .i64 ((ws (T.take i)).k : Int) ∧ v10 = .bool (ws (T.take i)).p ∧ v11 = .int .i64 (i : Int) ∧ Keep w4 wr)
      case atStart => exact ⟨0, by omega, rfl, rfl, rfl, rfl, Keep.refl _⟩
      case round =>
        obtain ⟨i, hig, rfl, rfl, rfl, rfl, kr⟩ := hrel
        by_cases hil : i < T.length
        · have hlt : (i : Int) < (T.length : Int) := by omega
          have hst := ws_take T i hil
          have hgd : T[i] = T.getD i 0 := by simp [List.getD, hil]
          rw [hgd] at hst
          have hcu : ∀ wx, (Instr.slice 9 (.string ⟨T.toArray⟩) (some (.int .i64 (i : Int))) (some (.int .i64 ((i : Int) + 1))) none).run Tryz.prog wx = .ok (.string ⟨#[T.getD i 0]⟩) wx := fun wx => by
            have q := run_cut T i (i + 1) (by omega) (by omega) wx
            have e : (T.take (i + 1)).drop i = [T.getD i 0] := by
              rw [List.take_succ_eq_append_getElem hil, hgd, List.drop_left' (by simp; omega)]
            rw [e] at q
            exact q
          have hixi := fun wx => run_ix T i hil wx
          obtain ⟨bl1, bl2⟩ := ws_len (T.take i)
          rw [List.length_take] at bl1 bl2
          obtain ⟨cc, hcc⟩ : ∃ cc, T.getD i 0 = cc := ⟨_, rfl⟩
          rw [hcc] at hst hcu hixi
          obtain ⟨S, hS⟩ : ∃ S, ws (T.take i) = S := ⟨_, rfl⟩
          rw [hS] at hst bl1 bl2
          rw [hS]
          obtain ⟨D, k, p⟩ := S
          simp only at bl1 bl2
          have hD3 : D.length ≤ 3000 := by omega
          have hk3 : k ≤ 3000 := by omega
          have hi3 : i ≤ 3000 := by omega
          have hszD : (ByteArray.mk D.toArray).size = D.length := sz_mk D
          have hcat := cat_one D cc
          have Hst : Hid (ws (T.take (i + 1)) = wsStep ⟨D, k, p⟩ cc) := hst
          clear hst hgd hcc hS bl1 bl2 hil
          by_cases h46 : cc = 46
          · subst h46
            have Hs2 : Hid (ws (T.take (i + 1)) = ⟨D, k, true⟩) := Hst.out
            clear Hst
            go_wp2_with fail
            go_roundg (gk - 1)
            case measure => omega
            case rel => exact ⟨i + 1, by omega, by rw [Hs2.out], by rw [Hs2.out], by rw [Hs2.out], rfl, kr⟩
          · have hne : ((cc.toNat : Int) == 46) = false := by
              rw [beq_eq_false_iff_ne]
              intro q
              apply h46
              have : cc.toNat = (46 : UInt8).toNat := by show cc.toNat = 46; omega
              exact UInt8.toNat_inj.1 this
            have Hs2 : Hid (ws (T.take (i + 1)) = ⟨D ++ [cc], k + (if p then 1 else 0), p⟩) := by
              unfold Hid
              rw [Hst.out]
              unfold wsStep
              rw [if_neg h46]
            clear Hst h46
            cases p
            · go_wp2_with fail
              go_roundg (gk - 1)
              case measure => omega
              case rel => exact ⟨i + 1, by omega, by rw [Hs2.out], by rw [Hs2.out]; rfl, by rw [Hs2.out], rfl, kr⟩
            · go_wp2_with fail
              go_roundg (gk - 1)
              case measure => omega
              case rel => exact ⟨i + 1, by omega, by rw [Hs2.out], by rw [Hs2.out]; rfl, by rw [Hs2.out], rfl, kr⟩
        · have hlt : ¬ (i : Int) < (T.length : Int) := by omega
          have hiT : T.take i = T := List.take_of_length_le (by omega)
          rw [hiT]
          have hRd := hRd'.out
          have hPw := hPw'.out
          obtain ⟨x0, x1, x2⟩ := (HB4.out.1.keep kr).cells
          have hOv := hOv'.out
          clear hiT hig hix hix2 hfr hszT hszY hTpos hT0 hc45
          generalize (ws T).d = D at *
          generalize (ws T).k = k at *
          generalize nat D = nD at *
          generalize 10 ^ k = tk at *
          go_wp2_with fail
          refine (hRd _).mono ?_
          rintro e w5 ⟨v5, rfl, l5, k5⟩
          go_wp2_with fail
          refine (hPw _ _ (lv_ten w5)).mono ?_
          rintro e w6 ⟨v6, rfl, l6, k6⟩
          have k56 : Keep w5 w6 := ((Keep.refl w5).alloc _).trans k6
          have l56 := l5.keep k56
          clear l5 hRd hPw
          go_wp2_with fail
          refine (hOv v5 v6 _ l56 l6).mono ?_
          rintro e w7 ⟨M, vn, vd, rfl, m1, m2, qn, qd, k7⟩
          obtain ⟨an, cn, ln, rfl, ln1, ln2, ln3, rn, on, lcn⟩ := qn.open
          obtain ⟨ad, cd, ld, rfl, ld1, ld2, ld3, rd, od, lcd⟩ := qd.open
          obtain rfl : la = ln := val_inj HLA.out.1 ln1 HLA.out.2.1 ln2 (HLA.out.2.2.trans ln3.symm)
          obtain rfl : lb = ld := val_inj HLB.out.1 ld1 HLB.out.2.1 ld2 (HLB.out.2.2.trans ld3.symm)
          obtain ⟨w8, hw8⟩ : ∃ w8, w7.alloc (.cells #[.bool s, .slice an la.length cn, .slice ad lb.length cd] 54) = w8 := ⟨_, rfl⟩
          have k8 : Keep w7 w8 := by rw [← hw8]; exact (Keep.refl w7).alloc _
          have B8 : Box w8 w7.heap.size (.bool s) (.slice an la.length cn) (.slice ad lb.length cd) := by rw [← hw8]; exact Box.new w7 _ _ _
          have k48 : Keep w4 w8 := (((kr.trans k5).trans k56).trans k7).trans k8
          have BA := HB4.out.1.keep k48
          have ra8 := HB4.out.2.1.keep k48
          have rb8 := HB4.out.2.2.keep k48
          have rn8 : Rd w8 an la := rn.rd.keep k8
          have rd8 : Rd w8 ad lb := rd.rd.keep k8
          have KW : Hid (Keep w w8) := K4.out.trans k48
          have FA : Hid (∀ wx, Keep w8 wx → (wx.cell? ⟨w3.heap.size, 0, none⟩ = some (.bool s) ∧ wx.cell? ⟨w3.heap.size, 1, none⟩ = some (.slice aa la.length ca) ∧ wx.cell? ⟨w3.heap.size, 2, none⟩ = some (.slice ab lb.length cb)) ∧ (wx.cell? ⟨w7.heap.size, 0, none⟩ = some (.bool s) ∧ wx.cell? ⟨w7.heap.size, 1, none⟩ = some (.slice an la.length cn) ∧ wx.cell? ⟨w7.heap.size, 2, none⟩ = some (.slice ad lb.length cd))) := fun wx kx => ⟨(BA.keep kx).cells, (B8.keep kx).cells⟩
          have hS1 := fun wx (kx : Keep w8 wx) => same_any an aa cn ca la wx (by omega) (rn8.keep kx) (ra8.keep kx)
          have hS2 := fun wx (kx : Keep w8 wx) => same_any ad ab cd cb lb wx (by omega) (rd8.keep kx) (rb8.keep kx)
          obtain ⟨⟨a0, a1, a2⟩, b0, b1, b2⟩ := FA.out _ (Keep.refl _)
          have hss : (s == s) = true := by simp
          clear hOv HB4 HLA HLB kr k5 k56 k6 k7 k8 k48 B8 BA ra8 rb8 rn8 rd8 qn qd rn rd on od lcn lcd l56 l6 x0 x1 x2 ln1 ln2 ln3 ld1 ld2 ld3 m1 m2
          go_wp2_with fail
          refine (hS1 _ (Keep.refl _)).mono ?_
          rintro e w10 ⟨rfl, k10⟩
          obtain ⟨⟨a0', a1', a2'⟩, b0', b1', b2'⟩ := FA.out _ k10
          go_wp2_with fail
          refine (hS2 _ k10).mono ?_
          rintro e w11 ⟨rfl, k11⟩
          have K11 := k10.trans k11
          go_wp2_with fail
          go_ret
          exact ⟨rfl, KW.out.trans K11⟩
    · have hXX : T = X := by rw [hXe2.out, hn]; rfl
      rw [hn] at hOv'
      subst hXX
      clear hXe2 hn
      go_wp2_with fail
      go_loopg [8, 9, 10, 11] (T.length) (fun g v8 v9 v10 v11 wr => ∃ i : Nat, i + g = T.length ∧ v8 = .string ⟨(ws (T.take i)).d.toArray⟩ ∧ v9 = .int .i64 ((ws (T.take i)).k : Int) ∧ v10 = .bool (ws (T.take i)).p ∧ v11 = .int .i64 (i : Int) ∧ Keep w4 wr)
      case atStart => exact ⟨0, by omega, rfl, rfl, rfl, rfl, Keep.refl _⟩
      case round =>
        obtain ⟨i, hig, rfl, rfl, rfl, rfl, kr⟩ := hrel
        by_cases hil : i < T.length
        · have hlt : (i : Int) < (T.length : Int) := by omega
          have hst := ws_take T i hil
          have hgd : T[i] = T.getD i 0 := by simp [List.getD, hil]
          rw [hgd] at hst
          have hcu : ∀ wx, (Instr.slice 9 (.string ⟨T.toArray⟩) (some (.int .i64 (i : Int))) (some (.int .i64 ((i : Int) + 1))) none).run Tryz.prog wx = .ok (.string ⟨#[T.getD i 0]⟩) wx := fun wx => by
            have q := run_cut T i (i + 1) (by omega) (by omega) wx
            have e : (T.take (i + 1)).drop i = [T.getD i 0] := by
              rw [List.take_succ_eq_append_getElem hil, hgd, List.drop_left' (by simp; omega)]
            rw [e] at q
            exact q
          have hixi := fun wx => run_ix T i hil wx
          obtain ⟨bl1, bl2⟩ := ws_len (T.take i)
          rw [List.length_take] at bl1 bl2
          obtain ⟨cc, hcc⟩ : ∃ cc, T.getD i 0 = cc := ⟨_, rfl⟩
          rw [hcc] at hst hcu hixi
          obtain ⟨S, hS⟩ : ∃ S, ws (T.take i) = S := ⟨_, rfl⟩
          rw [hS] at hst bl1 bl2
          rw [hS]
          obtain ⟨D, k, p⟩ := S
          simp only at bl1 bl2
          have hD3 : D.length ≤ 3000 := by omega
          have hk3 : k ≤ 3000 := by omega
          have hi3 : i ≤ 3000 := by omega
          have hszD : (ByteArray.mk D.toArray).size = D.length := sz_mk D
          have hcat := cat_one D cc
          have Hst : Hid (ws (T.take (i + 1)) = wsStep ⟨D, k, p⟩ cc) := hst
          clear hst hgd hcc hS bl1 bl2 hil
          by_cases h46 : cc = 46
          · subst h46
            have Hs2 : Hid (ws (T.take (i + 1)) = ⟨D, k, true⟩) := Hst.out
            clear Hst
            go_wp2_with fail
            go_roundg (gk - 1)
            case measure => omega
            case rel => exact ⟨i + 1, by omega, by rw [Hs2.out], by rw [Hs2.out], by rw [Hs2.out], rfl, kr⟩
          · have hne : ((cc.toNat : Int) == 46) = false := by
              rw [beq_eq_false_iff_ne]
              intro q
              apply h46
              have : cc.toNat = (46 : UInt8).toNat := by show cc.toNat = 46; omega
              exact UInt8.toNat_inj.1 this
            have Hs2 : Hid (ws (T.take (i + 1)) = ⟨D ++ [cc], k + (if p then 1 else 0), p⟩) := by
              unfold Hid
              rw [Hst.out]
              unfold wsStep
              rw [if_neg h46]
            clear Hst h46
            cases p
            · go_wp2_with fail
              go_roundg (gk - 1)
              case measure => omega
              case rel => exact ⟨i + 1, by omega, by rw [Hs2.out], by rw [Hs2.out]; rfl, by rw [Hs2.out], rfl, kr⟩
            · go_wp2_with fail
              go_roundg (gk - 1)
              case measure => omega
              case rel => exact ⟨i + 1, by omega, by rw [Hs2.out], by rw [Hs2.out]; rfl, by rw [Hs2.out], rfl, kr⟩
        · have hlt : ¬ (i : Int) < (T.length : Int) := by omega
          have hiT : T.take i = T := List.take_of_length_le (by omega)
          rw [hiT]
          have hRd := hRd'.out
          have hPw := hPw'.out
          obtain ⟨x0, x1, x2⟩ := (HB4.out.1.keep kr).cells
          have hOv := hOv'.out
          clear hiT hig hix hix2 hfr hszT hszY hTpos hT0 hc45
          generalize (ws T).d = D at *
          generalize (ws T).k = k at *
          generalize nat D = nD at *
          generalize 10 ^ k = tk at *
          go_wp2_with fail
          refine (hRd _).mono ?_
          rintro e w5 ⟨v5, rfl, l5, k5⟩
          go_wp2_with fail
          refine (hPw _ _ (lv_ten w5)).mono ?_
          rintro e w6 ⟨v6, rfl, l6, k6⟩
          have k56 : Keep w5 w6 := ((Keep.refl w5).alloc _).trans k6
          have l56 := l5.keep k56
          clear l5 hRd hPw
          go_wp2_with fail
          refine (hOv v5 v6 _ l56 l6).mono ?_
          rintro e w7 ⟨M, vn, vd, rfl, m1, m2, qn, qd, k7⟩
          obtain ⟨an, cn, ln, rfl, ln1, ln2, ln3, rn, on, lcn⟩ := qn.open
          obtain ⟨ad, cd, ld, rfl, ld1, ld2, ld3, rd, od, lcd⟩ := qd.open
          obtain rfl : la = ln := val_inj HLA.out.1 ln1 HLA.out.2.1 ln2 (HLA.out.2.2.trans ln3.symm)
          obtain rfl : lb = ld := val_inj HLB.out.1 ld1 HLB.out.2.1 ld2 (HLB.out.2.2.trans ld3.symm)
          obtain ⟨w8, hw8⟩ : ∃ w8, w7.alloc (.cells #[.bool s, .slice an la.length cn, .slice ad lb.length cd] 54) = w8 := ⟨_, rfl⟩
          have k8 : Keep w7 w8 := by rw [← hw8]; exact (Keep.refl w7).alloc _
          have B8 : Box w8 w7.heap.size (.bool s) (.slice an la.length cn) (.slice ad lb.length cd) := by rw [← hw8]; exact Box.new w7 _ _ _
          have k48 : Keep w4 w8 := (((kr.trans k5).trans k56).trans k7).trans k8
          have BA := HB4.out.1.keep k48
          have ra8 := HB4.out.2.1.keep k48
          have rb8 := HB4.out.2.2.keep k48
          have rn8 : Rd w8 an la := rn.rd.keep k8
          have rd8 : Rd w8 ad lb := rd.rd.keep k8
          have KW : Hid (Keep w w8) := K4.out.trans k48
          have FA : Hid (∀ wx, Keep w8 wx → (wx.cell? ⟨w3.heap.size, 0, none⟩ = some (.bool s) ∧ wx.cell? ⟨w3.heap.size, 1, none⟩ = some (.slice aa la.length ca) ∧ wx.cell? ⟨w3.heap.size, 2, none⟩ = some (.slice ab lb.length cb)) ∧ (wx.cell? ⟨w7.heap.size, 0, none⟩ = some (.bool s) ∧ wx.cell? ⟨w7.heap.size, 1, none⟩ = some (.slice an la.length cn) ∧ wx.cell? ⟨w7.heap.size, 2, none⟩ = some (.slice ad lb.length cd))) := fun wx kx => ⟨(BA.keep kx).cells, (B8.keep kx).cells⟩
          have hS1 := fun wx (kx : Keep w8 wx) => same_any an aa cn ca la wx (by omega) (rn8.keep kx) (ra8.keep kx)
          have hS2 := fun wx (kx : Keep w8 wx) => same_any ad ab cd cb lb wx (by omega) (rd8.keep kx) (rb8.keep kx)
          obtain ⟨⟨a0, a1, a2⟩, b0, b1, b2⟩ := FA.out _ (Keep.refl _)
          have hss : (s == s) = true := by simp
          clear hOv HB4 HLA HLB kr k5 k56 k6 k7 k8 k48 B8 BA ra8 rb8 rn8 rd8 qn qd rn rd on od lcn lcd l56 l6 x0 x1 x2 ln1 ln2 ln3 ld1 ld2 ld3 m1 m2
          go_wp2_with fail
          refine (hS1 _ (Keep.refl _)).mono ?_
          rintro e w10 ⟨rfl, k10⟩
          obtain ⟨⟨a0', a1', a2'⟩, b0', b1', b2'⟩ := FA.out _ k10
          go_wp2_with fail
          refine (hS2 _ k10).mono ?_
          rintro e w11 ⟨rfl, k11⟩
          have K11 := k10.trans k11
          go_wp2_with fail
          go_ret
          exact ⟨rfl, KW.out.trans K11⟩
end Go.Proofs.YtpdjpjkieafnbaaGreatDoor.Li
