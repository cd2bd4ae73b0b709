import Derived.Test.YtgmnadlmejkkpaaDoorK5
set_option linter.unusedVariables false
set_option linter.unusedSimpArgs false
namespace Go.Proofs.YtgmnadlmejkkpaaDoor
open Go.RowKit
set_option maxRecDepth 100000 in
theorem laws_no (a b : Option Addr) (ca cb : Nat) (l m : List Nat) (i : Int) (w : World) (hl : l.length ≤ 1048576) (hm : m.length ≤ 1048576) (ha : Rd w a l) (hb : Rd w b m) (hwl : W64 l) (hwm : W64 m) (hT : Tab w) (h : l.length ≠ m.length) :
    Calls Tryd.prog 8 #[.slice a l.length ca, .slice b m.length cb, .int .i64 i] w fun e w' => e = .returned (.bool true) ∧ Keep w w' := by
  have hL := lives_any w hT
  have A1 := fun wx (k : Keep w wx) => And_any ca cb a b l m wx (by omega) (by omega) (ha.keep k) (hb.keep k) hwl hwm
  have A2 := fun wx (k : Keep w wx) => Or_any ca cb a b l m wx (by omega) (by omega) (ha.keep k) (hb.keep k) hwl hwm
  have A3 := fun wx (k : Keep w wx) => Xor_any ca cb a b l m wx (by omega) (by omega) (ha.keep k) (hb.keep k) hwl hwm
  have e0 : ansE l m = 6 := by unfold ansE; rw [if_neg h]
  rw [e0] at A1 A2 A3
  have hne : ((l.length : Int) != (m.length : Int)) = true := by rw [bne_iff_ne]; omega
  go_enter Tryd.func8, Tryd.ntmps8
  go_wp2_with fail
  refine hL.mono ?_
  rintro e w1 ⟨rfl, k1⟩
  go_wp2_with fail
  refine (A1 w1 k1).mono ?_
  rintro e w2 ⟨a2, c2, rfl, -, -, k2⟩
  have t2 := k1.trans k2
  go_wp2_with fail
  refine (A2 w2 t2).mono ?_
  rintro e w3 ⟨a3, c3, rfl, -, -, k3⟩
  have t3 := t2.trans k3
  go_wp2_with fail
  refine (A3 w3 t3).mono ?_
  rintro e w4 ⟨a4, c4, rfl, -, -, k4⟩
  go_wp2_with fail
  go_ret
  exact ⟨rfl, t3.trans k4⟩
set_option maxRecDepth 100000 in
set_option maxHeartbeats 2000000 in
theorem laws_ok (a b : Option Addr) (ca cb : Nat) (l m : List Nat) (i : Int) (w : World) (hca : l.length ≤ ca) (hl : l.length ≤ 1048576) (hi : i ≤ 9223372036854775807) (ha : Rd w a l) (hb : Rd w b m) (hwl : W64 l) (hwm : W64 m) (hT : Tab w) (h : l.length = m.length) :
    Calls Tryd.prog 8 #[.slice a l.length ca, .slice b l.length cb, .int .i64 i] w fun e w' => e = .returned (.bool true) ∧ Keep w w' := by
  have hL := lives_any w hT
  have A1 := fun wx (k : Keep w wx) => And_any ca cb a b l m wx (by omega) (by omega) (ha.keep k) (hb.keep k) hwl hwm
  have A2 := fun wx (k : Keep w wx) => Or_any ca cb a b l m wx (by omega) (by omega) (ha.keep k) (hb.keep k) hwl hwm
  have A3 := fun wx (k : Keep w wx) => Xor_any ca cb a b l m wx (by omega) (by omega) (ha.keep k) (hb.keep k) hwl hwm
  unfold ansE ansL at A1 A2 A3
  rw [if_pos h, if_pos h] at A1 A2 A3
  have nx := zw_length (fun x y => x &&& y) h
  have ny := zw_length (fun x y => x ||| y) h
  have nz := zw_length (fun x y => x ^^^ y) h
  have wx := zw_w64 does_and hwl hwm
  have wy := zw_w64 does_or hwl hwm
  have wz := zw_w64 does_xor hwl hwm
  have hcn1 : cn (zw (fun x y => x &&& y) l m) (64 * l.length) + cn (zw (fun x y => x ||| y) l m) (64 * l.length) = cn l (64 * l.length) + cn m (64 * l.length) := by
    have := cnt_or (hs l) (hs m) (List.range (64 * l.length))
    unfold cn
    rw [← this]
    congr 1
    · apply List.countP_congr; intro i _; rw [hs_and h]
    · apply List.countP_congr; intro i _; rw [hs_zor h]
  have hcn2 : cn (zw (fun x y => x ^^^ y) l m) (64 * l.length) + cn (zw (fun x y => x &&& y) l m) (64 * l.length) = cn (zw (fun x y => x ||| y) l m) (64 * l.length) := by
    have := cnt_xor (hs l) (hs m) (List.range (64 * l.length))
    unfold cn
    have e1 : (List.range (64 * l.length)).countP (hs (zw (fun x y => x ^^^ y) l m)) = (List.range (64 * l.length)).countP (fun i => hs l i ^^ hs m i) := by apply List.countP_congr; intro i _; rw [hs_zxor h]
    have e2 : (List.range (64 * l.length)).countP (hs (zw (fun x y => x &&& y) l m)) = (List.range (64 * l.length)).countP (fun i => hs l i && hs m i) := by apply List.countP_congr; intro i _; rw [hs_and h]
    have e3 : (List.range (64 * l.length)).countP (hs (zw (fun x y => x ||| y) l m)) = (List.range (64 * l.length)).countP (fun i => hs l i || hs m i) := by apply List.countP_congr; intro i _; rw [hs_zor h]
    rw [e1, e2, e3]; exact this
  have hh1 : hasI (zw (fun x y => x &&& y) l m) i = (hasI l i && hasI m i) := hasI_and h i
  have hh2 : hasI (zw (fun x y => x ||| y) l m) i = (hasI l i || hasI m i) := by unfold hasI; rw [hs_zor h]; cases decide (0 ≤ i) <;> simp
  have hh3 : hasI (zw (fun x y => x ^^^ y) l m) i = (hasI l i ^^ hasI m i) := by unfold hasI; rw [hs_zxor h]; cases decide (0 ≤ i) <;> simp
  have bl := cn_le l (64 * l.length)
  have bm := cn_le m (64 * l.length)
  have HA := fun wx (k : Keep w wx) => Has_any a ca l i wx (by omega) hi (ha.keep k) hwl
  have HB := fun wx (k : Keep w wx) => Has_any b cb m i wx (by omega) hi (hb.keep k) hwm
  have CA := fun wx (k : Keep w wx) => Count_any a ca l wx (by omega) (ha.keep k) hwl
  have CB := fun wx (k : Keep w wx) => Count_any b cb m wx (by omega) (hb.keep k) hwm
  have HZ := fun wx az cz z (hz : Rd wx az z) (n : z.length = l.length) (hwz : W64 z) => Has_any az cz z i wx (by omega) hi hz hwz
  have CZ := fun wx az cz z (hz : Rd wx az z) (n : z.length = l.length) (hwz : W64 z) => Count_any az cz z wx (by omega) hz hwz
  rw [← h] at A1 A2 A3 HB CB
  generalize zw (fun x y => x &&& y) l m = X at *
  generalize zw (fun x y => x ||| y) l m = Y at *
  generalize zw (fun x y => x ^^^ y) l m = Z at *
  have Hnx : Hid (X.length = l.length ∧ Y.length = l.length ∧ Z.length = l.length) := ⟨nx, ny, nz⟩
  clear h
  clear nx ny nz
  go_enter Tryd.func8, Tryd.ntmps8
  go_wp2_with fail
  refine hL.mono ?_
  rintro e w1 ⟨rfl, k1⟩
  go_wp2_with fail
  refine (A1 w1 k1).mono ?_
  rintro e w2 ⟨aX, cX, rfl, -, rX, k2⟩
  have t2 := k1.trans k2
  rw [Hnx.out.1]
  go_wp2_with fail
  refine (A2 w2 t2).mono ?_
  rintro e w3 ⟨aY, cY, rfl, -, rY, k3⟩
  have t3 := t2.trans k3
  rw [Hnx.out.2.1]
  go_wp2_with fail
  refine (A3 w3 t3).mono ?_
  rintro e w4 ⟨aZ, cZ, rfl, -, rZ, k4⟩
  have t4 := t3.trans k4
  rw [Hnx.out.2.2]
  have hX := HZ w4 aX cX X (rX.keep (k3.trans k4)) Hnx.out.1 wx
  have hY := HZ w4 aY cY Y (rY.keep k4) Hnx.out.2.1 wy
  have hZ := HZ w4 aZ cZ Z rZ Hnx.out.2.2 wz
  have cX' := CZ w4 aX cX X (rX.keep (k3.trans k4)) Hnx.out.1 wx
  have cY' := CZ w4 aY cY Y (rY.keep k4) Hnx.out.2.1 wy
  have cZ' := CZ w4 aZ cZ Z rZ Hnx.out.2.2 wz
  have hA := HA w4 t4
  have hB := HB w4 t4
  have cA := CA w4 t4
  have cB := CB w4 t4
  rw [Hnx.out.1] at hX cX'
  rw [Hnx.out.2.1] at hY cY'
  rw [Hnx.out.2.2] at hZ cZ'
  have HC : Hid (∀ j, j < cn l (64 * l.length) → ∃ P, P < 64 * l.length ∧ selI l j = ((P : Nat) : Int) ∧ hasI l ((P : Nat) : Int) = true ∧ rankI l ((P : Nat) : Int) = j ∧ (j + 1 = cn l (64 * l.length) → hiI l = ((P : Nat) : Int))) := by
    show ∀ j, _
    intro j hj
    rw [← allB_length] at hj ⊢
    obtain ⟨q1, q2, q3⟩ := sel_inv hj
    refine ⟨(allB l).getD j 0, q1, selI_get hj, by unfold hasI; rw [Int.toNat_natCast, q2]; simp, by unfold rankI; rw [if_neg (by omega), Int.toNat_natCast]; exact q3, fun e => ?_⟩
    unfold hiI
    rw [if_neg (by omega), show (allB l).length - 1 = j by omega]
  have S1 := fun wx (k : Keep w wx) (j : Nat) (hj : j ≤ 67108864) => Select_ok a ca j l wx (by omega) (by omega) (ha.keep k) hwl (hT.keep k)
  have S2 := fun wx (k : Keep w wx) (P : Nat) (hP : P ≤ 67108864) => Has_any a ca l (P : Int) wx (by omega) (by omega) (ha.keep k) hwl
  have S3 := fun wx (k : Keep w wx) (P : Nat) (hP : P ≤ 67108864) => Rank_any a ca l (P : Int) wx hca (by omega) (by omega) (ha.keep k) hwl
  have S4 := fun wx (k : Keep w wx) => Lowest_any a ca l wx (by omega) (ha.keep k) hwl (hT.keep k)
  have S5 := fun wx (k : Keep w wx) => Highest_hi a ca l (by omega) hwl wx (ha.keep k)
  have S6 := fun wx (k : Keep w wx) => Count_any a ca l wx (by omega) (ha.keep k) hwl
  have S7 := fun wx (k : Keep w wx) => Runs_st a ca l wx hl (ha.keep k) hwl (hT.keep k)
  have HR : Hid (∀ t : Nat, rankI l ((t : Nat) : Int) = cn l t) := by show ∀ t, _; intro t; unfold rankI; rw [if_neg (by omega), Int.toNat_natCast]
  have Hlast : Hid (selI l (cn l (64 * l.length)) = -1) := selI_none (Nat.le_refl _)
  have Hcn4 : ∃ N, cn l (64 * l.length) = N := ⟨_, rfl⟩
  clear A1 A2 A3 HA HB CA CB HZ CZ hL rX rY rZ wx wy wz k1 k2 k3 k4 t2 t3 Hnx
  rw [hh1] at hX
  rw [hh2] at hY
  rw [hh3] at hZ
  clear hh1 hh2 hh3
  generalize cn X (64 * l.length) = n1 at *
  generalize cn Y (64 * l.length) = n2 at *
  generalize cn Z (64 * l.length) = n3 at *
  obtain ⟨n4, hn4⟩ : ∃ n, cn l (64 * l.length) = n := ⟨_, rfl⟩
  have Hn4 : Hid (cn l (64 * l.length) = n4) := hn4
  rw [hn4] at cA hcn1 bl HC S6 Hlast
  clear hn4
  generalize cn m (64 * l.length) = n5 at *
  generalize hasI l i = p at *
  generalize hasI m i = q at *
  have g1 : ((n1 : Int) + n2 != (n4 : Int) + n5) = false := by rw [bne_eq_false_iff_eq]; omega
  have g2 : ((n3 : Int) != (n2 : Int) - n1) = false := by rw [bne_eq_false_iff_eq]; omega
  cases p <;> cases q
  all_goals
    go_wp2_with first
      | (go_at_call_of 37 (Value.slice aX l.length cX); refine cX'.mono ?_; rintro e w' ⟨rfl, rfl⟩)
      | (go_at_call_of 37 (Value.slice aY l.length cY); refine cY'.mono ?_; rintro e w' ⟨rfl, rfl⟩)
      | (go_at_call_of 37 (Value.slice aZ l.length cZ); refine cZ'.mono ?_; rintro e w' ⟨rfl, rfl⟩)
      | (go_at_call_of 37 (Value.slice a l.length ca); refine cA.mono ?_; rintro e w' ⟨rfl, rfl⟩)
      | (go_at_call_of 37 (Value.slice b l.length cb); refine cB.mono ?_; rintro e w' ⟨rfl, rfl⟩)
      | (go_at_call_of 31 (Value.slice aX l.length cX); refine hX.mono ?_; rintro e w' ⟨rfl, rfl⟩)
      | (go_at_call_of 31 (Value.slice aY l.length cY); refine hY.mono ?_; rintro e w' ⟨rfl, rfl⟩)
      | (go_at_call_of 31 (Value.slice aZ l.length cZ); refine hZ.mono ?_; rintro e w' ⟨rfl, rfl⟩)
      | (go_at_call_of 31 (Value.slice a l.length ca); refine hA.mono ?_; rintro e w' ⟨rfl, rfl⟩)
      | (go_at_call_of 31 (Value.slice b l.length cb); refine hB.mono ?_; rintro e w' ⟨rfl, rfl⟩)
  all_goals
    clear hX hY hZ cX' cY' cZ' hA hB cA cB g1 g2 hcn1 hcn2
    go_loopw [13, 14] (fun n k wr => ∃ j : Nat, j ≤ n4 ∧ n = .int .i64 j ∧ k = .int .i64 j ∧ Keep w wr) (fun _ k _ => n4 - (intOf k).toNat)
    case atStart => exact ⟨0, by omega, rfl, rfl, t4⟩
    case round =>
      obtain ⟨j, hj, rfl, rfl, hkp⟩ := hrel
      by_cases hjl : j < n4
      · obtain ⟨P, p1, p2, p3, p4, p5⟩ := HC.out j hjl
        have s1 := S1 wr hkp j (by omega)
        have s2 := S2 wr hkp P (by omega)
        have s3 := S3 wr hkp P (by omega)
        rw [p2] at s1
        rw [p3] at s2
        rw [p4] at s3
        have s4 := fun wx k => S4 wx k
        have s5 := fun wx k => S5 wx k
        by_cases h0 : j = 0
        · subst h0
          rw [p2] at s4
          by_cases h1 : 1 = n4
          · rw [p5 (by omega)] at s5
            have f1 : (0 : Int) == (n4 : Int) - 1 := by rw [beq_iff_eq]; omega
            clear p2 p3 p4 p5 S1 S2 S3 S4 S5 S7 HC h1
            go_wp2_with fail
            refine (S6 wr hkp).mono ?_
            rintro e v1 ⟨rfl, rfl⟩
            go_wp2_with fail
            refine s1.mono ?_
            rintro e v2 ⟨rfl, rfl⟩
            go_wp2_with fail
            refine s2.mono ?_
            rintro e v3 ⟨rfl, rfl⟩
            go_wp2_with fail
            refine s3.mono ?_
            rintro e v4 ⟨rfl, kv⟩
            have hk4 := hkp.trans kv
            go_wp2_with fail
            refine (s4 v4 hk4).mono ?_
            rintro e v5 ⟨rfl, rfl⟩
            go_wp2_with fail
            refine (S6 v5 hk4).mono ?_
            rintro e v6 ⟨rfl, rfl⟩
            go_wp2_with fail
            refine (s5 v6 hk4).mono ?_
            rintro e v7 ⟨rfl, kv2⟩
            have hk7 := hk4.trans kv2
            go_wp2_with fail
            go_roundw
            case rel => exact ⟨0 + 1, by omega, by go_num, by go_num, hk7⟩
            case measure => simp [intOf]; omega
          · have f1 : ((0 : Int) == (n4 : Int) - 1) = false := by rw [beq_eq_false_iff_ne]; omega
            clear p2 p3 p4 p5 S1 S2 S3 S4 S5 S7 HC h1 s5
            go_wp2_with fail
            refine (S6 wr hkp).mono ?_
            rintro e v1 ⟨rfl, rfl⟩
            go_wp2_with fail
            refine s1.mono ?_
            rintro e v2 ⟨rfl, rfl⟩
            go_wp2_with fail
            refine s2.mono ?_
            rintro e v3 ⟨rfl, rfl⟩
            go_wp2_with fail
            refine s3.mono ?_
            rintro e v4 ⟨rfl, kv⟩
            have hk4 := hkp.trans kv
            go_wp2_with fail
            refine (s4 v4 hk4).mono ?_
            rintro e v5 ⟨rfl, rfl⟩
            go_wp2_with fail
            refine (S6 v5 hk4).mono ?_
            rintro e v6 ⟨rfl, rfl⟩
            have hk7 := hk4
            go_wp2_with fail
            go_roundw
            case rel => exact ⟨0 + 1, by omega, by go_num, by go_num, hk7⟩
            case measure => simp [intOf]; omega
        · have f0 : ((j : Int) == 0) = false := by rw [beq_eq_false_iff_ne]; omega
          by_cases h1 : j + 1 = n4
          · rw [p5 h1] at s5
            have f1 : ((j : Int) == (n4 : Int) - 1) = true := by rw [beq_iff_eq]; omega
            clear p2 p3 p4 p5 S1 S2 S3 S4 S5 S7 HC h1 s4
            go_wp2_with fail
            refine (S6 wr hkp).mono ?_
            rintro e v1 ⟨rfl, rfl⟩
            go_wp2_with fail
            refine s1.mono ?_
            rintro e v2 ⟨rfl, rfl⟩
            go_wp2_with fail
            refine s2.mono ?_
            rintro e v3 ⟨rfl, rfl⟩
            go_wp2_with fail
            refine s3.mono ?_
            rintro e v4 ⟨rfl, kv⟩
            have hk4 := hkp.trans kv
            go_wp2_with fail
            refine (S6 v4 hk4).mono ?_
            rintro e v6 ⟨rfl, rfl⟩
            go_wp2_with fail
            refine (s5 v6 hk4).mono ?_
            rintro e v7 ⟨rfl, kv2⟩
            have hk7 := hk4.trans kv2
            go_wp2_with fail
            go_roundw
            case rel => exact ⟨j + 1, by omega, by go_num, by go_num, hk7⟩
            case measure => simp [intOf]; omega
          · have f1 : ((j : Int) == (n4 : Int) - 1) = false := by rw [beq_eq_false_iff_ne]; omega
            clear p2 p3 p4 p5 S1 S2 S3 S4 S5 S7 HC h1 s4 s5
            go_wp2_with fail
            refine (S6 wr hkp).mono ?_
            rintro e v1 ⟨rfl, rfl⟩
            go_wp2_with fail
            refine s1.mono ?_
            rintro e v2 ⟨rfl, rfl⟩
            go_wp2_with fail
            refine s2.mono ?_
            rintro e v3 ⟨rfl, rfl⟩
            go_wp2_with fail
            refine s3.mono ?_
            rintro e v4 ⟨rfl, kv⟩
            have hk4 := hkp.trans kv
            go_wp2_with fail
            refine (S6 v4 hk4).mono ?_
            rintro e v6 ⟨rfl, rfl⟩
            have hk7 := hk4
            go_wp2_with fail
            go_roundw
            case rel => exact ⟨j + 1, by omega, by go_num, by go_num, hk7⟩
            case measure => simp [intOf]; omega
      · obtain rfl : j = n4 := by omega
        go_wp2_with fail
        refine (S6 wr hkp).mono ?_
        rintro e v1 ⟨rfl, rfl⟩
        go_wp2_with fail
        refine (S7 v1 hkp).mono ?_
        rintro e u1 ⟨v, L, rfl, oL, nL, hch, hcov, hst, ku⟩
        obtain ⟨av, cv, rfl, -, rdL⟩ := oL.shape
        go_wp2_with fail
        have Hm1 := mass hch hcov hst
        have HJ := Hid.out Hlast
        clear S2 S4 S5 S7 HC
        go_loopw [16, 17, 163] (fun tt la ix wr => ∃ q : Nat, q ≤ L.length ∧ tt = .int .i64 (cn l (ah L q) : Nat) ∧ la = .int .i64 (laI L q) ∧ ix = .int .i64 q ∧ Keep u1 wr) (fun _ _ ix _ => L.length - (intOf ix).toNat)
        case atStart => exact ⟨0, by omega, rfl, rfl, rfl, Keep.refl _⟩
        case round =>
          obtain ⟨q, hq, rfl, rfl, rfl, hkq⟩ := hrel
          by_cases hql : q < L.length
          · obtain ⟨bb, oo, rfl, x1, x2⟩ := (rdL.keep hkq) q hql
            obtain ⟨m1, m2, m3, m4, m5, m6⟩ := Hm1.1 q hql
            have Hah : Hid (ah L (q + 1) = (L.getD q (0, 0)).2 ∧ laI L (q + 1) = ((L.getD q (0, 0)).2 : Nat)) := ⟨ah_succ L q, laI_succ L q⟩
            have kwr := (hkp.trans ku).trans hkq
            generalize (L.getD q (0, 0)).1 = f at *
            generalize (L.getD q (0, 0)).2 = t at *
            obtain ⟨D, hD⟩ : ∃ D, t - f = D := ⟨_, rfl⟩
            have S3' := fun wx (k : Keep w wx) (P : Nat) (hP : P ≤ 67108864) => S3 wx k P hP
            simp only [HR.out] at S3'
            obtain ⟨Nt, hNt⟩ : ∃ N, cn l t = N := ⟨_, rfl⟩
            obtain ⟨Nf, hNf⟩ : ∃ N, cn l f = N := ⟨_, rfl⟩
            have Rt := fun wx (k : Keep w wx) => S3' wx k t (by omega)
            have Rf := fun wx (k : Keep w wx) => S3' wx k f (by omega)
            rw [hNt] at Rt m5
            rw [hNf] at Rf m5 m6
            obtain ⟨Na, hNa⟩ : ∃ N, cn l (ah L q) = N := ⟨_, rfl⟩
            rw [hNa] at m6 ⊢
            obtain ⟨la, hla⟩ : ∃ x, laI L q = x := ⟨_, rfl⟩
            rw [hla] at m4 ⊢
            have HNt : Hid (cn l t = Nt) := hNt
            have g1 : ¬ (f : Int) ≤ la := by omega
            have g2 : ¬ (t : Int) ≤ (f : Int) := by omega
            have gb1 : decide ((f : Int) ≤ la) = false := decide_eq_false g1
            have gb2 : decide ((t : Int) ≤ (f : Int)) = false := decide_eq_false g2
            have gb4 : decide (t ≤ f) = false := decide_eq_false (by omega)
            have gb5 : IntKind.i64.wrap (D : Int) = (D : Int) := by rw [IntKind.wrap_i64]; omega
            have gb3 : ((D : Int) != (D : Int)) = false := by rw [bne_eq_false_iff_eq]
            have w1' : IntKind.i64.wrap ((Nt : Int) - (Nf : Int)) = (D : Int) := by rw [IntKind.wrap_i64]; omega
            have w2' : IntKind.i64.wrap ((t : Int) - (f : Int)) = (D : Int) := by rw [IntKind.wrap_i64]; omega
            have w3' : (t : Int) - (f : Int) = (D : Int) := by omega
            have hka : Keep wr (wr.alloc (Obj.cells #[Value.int IntKind.i64 f, Value.int IntKind.i64 t] 55)) := (Keep.refl wr).alloc _
            have hrow3 : (wr.alloc (Obj.cells #[Value.int IntKind.i64 f, Value.int IntKind.i64 t] 55)).heap[wr.heap.size]? = some (Obj.cells #[Value.int IntKind.i64 f, Value.int IntKind.i64 t] 55 (0, 0)) := heap_alloc_new wr _
            have Hsum : Hid (Na + D = Nt) := by show _ = _; omega
            have hbN : Na + D ≤ 67108864 := by have := cn_le l t; omega
            clear hNt hNf hNa hla S3' S3 m4 m5 m6 hD
            go_wp2_with fail
            have y0 : (wr.alloc (Obj.cells #[Value.int IntKind.i64 f, Value.int IntKind.i64 t] 55)).cell? ⟨wr.heap.size, 0, none⟩ = some (Value.int IntKind.i64 f) := by rw [cell_of_row _ _ 0 _ 55 (0, 0) hrow3]; rfl
            have y1 : (wr.alloc (Obj.cells #[Value.int IntKind.i64 f, Value.int IntKind.i64 t] 55)).cell? ⟨wr.heap.size, 1, none⟩ = some (Value.int IntKind.i64 t) := by rw [cell_of_row _ _ 1 _ 55 (0, 0) hrow3]; rfl
            have kd : Keep w (wr.alloc (Obj.cells #[Value.int IntKind.i64 f, Value.int IntKind.i64 t] 55)).drew := (kwr.trans hka).drew
            clear hrow3
            generalize wr.heap.size = R at *
            generalize wr.alloc _ = w2 at *
            go_region_held3 (fun w' => w'.cell? ⟨R, 0, none⟩ = some (Value.int IntKind.i64 f) ∧ w'.cell? ⟨R, 1, none⟩ = some (Value.int IntKind.i64 t)) (go_keep) (first
              | (go_at_call 39; first | (refine (Rt _ kd).mono ?_; clear Rt; rintro e wA ⟨rfl, kA⟩; have kdA := kd.trans kA; clear kd; have z0 := Keep.cell kA y0; have z1 := Keep.cell kA y1) | (refine (Rf _ kd).mono ?_; clear Rf; rintro e wA ⟨rfl, kA⟩; have kdA := kd.trans kA; clear kd; have z0 := Keep.cell kA y0; have z1 := Keep.cell kA y1) | (refine (Rt _ kdA).mono ?_; clear Rt; rintro e wB ⟨rfl, kB⟩; have kdB := kdA.trans kB; have v0 := Keep.cell kB z0; have v1' := Keep.cell kB z1) | (refine (Rf _ kdA).mono ?_; clear Rf; rintro e wB ⟨rfl, kB⟩; have kdB := kdA.trans kB; have v0 := Keep.cell kB z0; have v1' := Keep.cell kB z1)))
            have kq := ((hkq.trans hka).drew.trans kA).trans kB
            go_simp
            go_wp2_with fail
            refine ⟨⟨q + 1, by omega, ?_, ?_, by go_num, kq⟩, ?_⟩
            · rw [Hah.out.1, HNt.out]
              have := Hsum.out
              congr 1
              omega
            · rw [Hah.out.2]
            · simp [intOf]; omega
          · have hqe : Hid (q = L.length) := by show _ = _; omega
            have kwr := (hkp.trans ku).trans hkq
            have s1 := S1 wr kwr j (by omega)
            rw [HJ] at s1
            have Hn : Hid (cn l (ah L q) = j) := by show _ = _; rw [hqe.out, Hm1.2]; exact Hn4.out
            obtain ⟨N, hN⟩ : ∃ N, cn l (ah L q) = N := ⟨_, rfl⟩
            rw [hN]
            obtain rfl : N = j := by rw [← hN]; exact Hn.out
            clear hN Hn
            go_wp2_with fail
            refine (S6 wr kwr).mono ?_
            rintro e y1 ⟨rfl, rfl⟩
            go_wp2_with fail
            refine s1.mono ?_
            rintro e y2 ⟨rfl, rfl⟩
            go_wp2_with fail
            go_ret
            exact ⟨rfl, kwr⟩
theorem law_laws (a b : Option Addr) (ca cb : Nat) (l m : List Nat) (i : Int) (w : World) (hca : l.length ≤ ca) (hl : l.length ≤ 1048576) (hm : m.length ≤ 1048576) (hi : i ≤ 9223372036854775807) (ha : Rd w a l) (hb : Rd w b m) (hwl : W64 l) (hwm : W64 m) (hT : Tab w) :
    Calls Tryd.prog 8 #[.slice a l.length ca, .slice b m.length cb, .int .i64 i] w fun e w' => e = .returned (.bool true) ∧ Keep w w' := by
  by_cases h : l.length = m.length
  · have := laws_ok a b ca cb l m i w hca hl hi ha hb hwl hwm hT h
    rw [← h]
    exact this
  · exact laws_no a b ca cb l m i w hl hm ha hb hwl hwm hT h
end Go.Proofs.YtgmnadlmejkkpaaDoor
