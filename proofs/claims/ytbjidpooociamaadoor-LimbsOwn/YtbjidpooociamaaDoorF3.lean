import Derived.Test.YtbjidpooociamaaDoorF2
import Derived.WalkMore
import Derived.Deep.LoopGhost
set_option linter.unusedVariables false
set_option linter.unusedSimpArgs false
namespace Go.Proofs.YtbjidpooociamaaDoor
open Go.RowKit Lb
set_option maxRecDepth 100000 in
theorem slice32_to (wx : World) (b o n c k : Nat) (hk : k ≤ c) : (Instr.slice 22 (.slice (some ⟨b, o, none⟩) n c) none (some (.int .i64 (k : Nat))) none).run Tryd.prog wx = .ok (.slice (some ⟨b, o, none⟩) k c) wx := by
  rw [run_slice_h (P := Tryd.prog) wx 22 (some ⟨b, o, none⟩) n c Tryd.underlying22 .i64 k (by omega) (by omega)]
  have e2 : (sizeOf (Tryd.prog.elem 22)).run Tryd.prog wx = .ok 1 wx := by kernel_rfl
  rw [e2]
  simp [Result.andThen, sliced, Addr.add]
set_option maxRecDepth 100000 in
set_option maxHeartbeats 1600000 in
theorem divideLimb_any (g o m : Nat) (b : Option Addr) (cb c : Nat) (r lb : List Nat) (w : World) (hrl : r.length ≤ 70368744177664) (hrow : Row w g r) (hrb : Rd w b lb) (hoff : Off g b lb) (hm : Lim r) (hmb : Lim lb)
    (hn : lb.length = m + 2) (hc : m + 3 ≤ c) (hfit : o + (m + 3) ≤ r.length) (hlead : 2147483648 ≤ lb.getD (m + 1) 0) (hV : val r < 4294967296 ^ (o + 1) * val lb) :
    Calls Tryd.prog 105 #[.slice (some ⟨g, o, none⟩) (m + 3) c, .slice b (m + 2) cb] w fun e w' => ∃ (q : Nat) (r' : List Nat), e = .returned (.int .u32 (q : Nat)) ∧ q < 4294967296 ∧ Row w' g r' ∧ r'.length = r.length ∧ Lim r' ∧ val r' + q * (4294967296 ^ o * val lb) = val r ∧ val r' < 4294967296 ^ o * val lb ∧ Mut g w w' := by
  obtain ⟨b1, o1, rfl, hcd1⟩ := hrb (m + 1) (by omega)
  obtain ⟨b2, o2, e2, hcd0⟩ := hrb m (by omega)
  simp only [Option.some.injEq, Addr.mk.injEq, and_true] at e2
  obtain ⟨rfl, rfl⟩ := e2
  have hcx0 := hrow.cell (o + (m + 2)) (by omega)
  have hcx1 := hrow.cell (o + (m + 1)) (by omega)
  have hcx2 := hrow.cell (o + m) (by omega)
  obtain ⟨x0, hx0⟩ : ∃ x, r.getD (o + (m + 2)) 0 = x := ⟨_, rfl⟩
  obtain ⟨x1, hx1⟩ : ∃ x, r.getD (o + (m + 1)) 0 = x := ⟨_, rfl⟩
  obtain ⟨x2, hx2⟩ : ∃ x, r.getD (o + m) 0 = x := ⟨_, rfl⟩
  obtain ⟨d1, hd1⟩ : ∃ x, lb.getD (m + 1) 0 = x := ⟨_, rfl⟩
  obtain ⟨d0, hd0⟩ : ∃ x, lb.getD m 0 = x := ⟨_, rfl⟩
  have lx0 : x0 < 4294967296 := hx0 ▸ Lim_getD hm _
  have lx1 : x1 < 4294967296 := hx1 ▸ Lim_getD hm _
  have lx2 : x2 < 4294967296 := hx2 ▸ Lim_getD hm _
  have ld1 : d1 < 4294967296 := hd1 ▸ Lim_getD hmb _
  have ld0 : d0 < 4294967296 := hd0 ▸ Lim_getD hmb _
  rw [hx0] at hcx0; rw [hx1] at hcx1; rw [hx2] at hcx2; rw [hd1] at hcd1 hlead; rw [hd0] at hcd0
  have KN : Hid (Knuth 4294967296 (val r) (4294967296 ^ o) (4294967296 ^ m) (val lb) d1 d0 (val (lb.take m)) x0 x1 x2 (val (r.take (o + m)))) :=
    knuth_of r lb o m d1 d0 x0 x1 x2 hm hmb hn hfit hV hx0 hx1 hx2 hd1 hd0 (by omega)
  have Hx2 : Hid (r.getD (o + m) 0 = x2) := hx2
  have Hd0 : Hid (lb.getD m 0 = d0) := hd0
  have HV : Hid (val r < 4294967296 ^ (o + 1) * val lb) := hV
  clear hx0 hx1 hx2 hd1 hd0 hV
  obtain ⟨T, hTT⟩ : ∃ T, x0 * 4294967296 + x1 = T := ⟨_, rfl⟩
  have hor : bits BinOp.or IntKind.u64 ((x0 : Int) * 4294967296) (x1 : Int) = (T : Int) := by rw [or64' x0 x1 lx0 lx1, hTT]
  obtain ⟨G, hG⟩ : ∃ G, T / d1 = G := ⟨_, rfl⟩
  obtain ⟨L, hL⟩ : ∃ L, T % d1 = L := ⟨_, rfl⟩
  have hGi : (T : Int) / (d1 : Int) = (G : Int) := by rw [← hG]; simp
  have hLi : (T : Int) % (d1 : Int) = (L : Int) := by rw [← hL]; simp
  have hTl : T < 18446744073709551616 := by omega
  have HTT : Hid (x0 * 4294967296 + x1 = T) := hTT
  have HGL : Hid (G * d1 + L = T) := by
    show _ = _
    rw [← hG, ← hL, Nat.mul_comm]; exact Nat.div_add_mod T d1
  have hGb : G ≤ 8589934592 := by rw [← hG]; exact Nat.le_trans (Nat.div_le_div_left hlead (by omega)) (by omega)
  have hLb : L < d1 := by rw [← hL]; exact Nat.mod_lt _ (by omega)
  clear hTT hG hL
  go_enter Tryd.func105, Tryd.ntmps105
  go_wp2
  go_step3
  go_wp2
  go_quiet (fail)
  have hk1 : Keep w (w.drewN nq) := (Keep.refl w).drewN _
  have hmu1 : Mut g w (w.drewN nq) := (Mut.refl g w).drewN _
  have hrow1 := hrow.drewN nq
  have cx2 : (w.drewN nq).cell? _ = _ := hcx2
  have cd1 : (w.drewN nq).cell? _ = _ := hcd1
  have cd0 : (w.drewN nq).cell? _ = _ := hcd0
  clear hcx0 hcx1 hcx2 hcd1 hcd0 hrow
  generalize w.drewN nq = w1 at hk1 hmu1 hrow1 cx2 cd1 cd0 ⊢
  go_wp2
  go_quiet (fail)
  have hk2 : Keep w (w1.drewN nq) := hk1.drewN _
  have hmu2 : Mut g w (w1.drewN nq) := hmu1.drewN _
  have hrow2 := hrow1.drewN nq
  have dx2 : (w1.drewN nq).cell? _ = _ := cx2
  have dd0 : (w1.drewN nq).cell? _ = _ := cd0
  clear cx2 cd1 cd0 hrow1 hk1 hmu1
  generalize w1.drewN nq = w2 at hk2 hmu2 hrow2 dx2 dd0 ⊢
  go_wp2
  go_step3
  go_wp2
  have HQ0 : Hid (∀ q, q * (4294967296 ^ o * val lb) ≤ val r → q ≤ G) := by
    intro q hq
    have h1 := KN.out.one q hq
    rw [HTT.out, ← HGL.out] at h1
    rcases Nat.lt_or_ge G q with h2 | h2
    · have h3 := Nat.mul_le_mul_right d1 (show G + 1 ≤ q from h2)
      rw [Nat.add_mul] at h3
      omega
    · exact h2
  have htop := KN.out.top
  go_loopw [8, 9] (fun gv lv wr => ∃ G' L' : Nat, gv = .int .u64 G' ∧ lv = .int .u64 L' ∧ Hid (G' * d1 + L' = T) ∧ L' < 4294967296 ∧ G' ≤ 8589934592 ∧ Hid (∀ q, q * (4294967296 ^ o * val lb) ≤ val r → q ≤ G') ∧ Row wr g r ∧ Keep w wr ∧ Mut g w wr) (fun gv _ _ => (intOf gv).toNat)
  case atStart => exact ⟨G, L, rfl, by rw [hLi], HGL, by omega, hGb, HQ0, hrow2, hk2, hmu2⟩
  case round =>
    obtain ⟨G', L', rfl, rfl, hGL, hL', hG', hQ, hrow3, hk3, hmu3⟩ := hrel
    have ex2 := hrow3.cell (o + m) (by omega)
    rw [Hx2.out] at ex2
    obtain ⟨b4, o4, e4, ed0⟩ := (hrb.keep hk3) m (by omega)
    simp only [Option.some.injEq, Addr.mk.injEq, and_true] at e4
    obtain ⟨rfl, rfl⟩ := e4
    rw [Hd0.out] at ed0
    by_cases hbig : 4294967295 < G'
    · have hbd : decide ((4294967295 : Int) < (G' : Int)) = true := by simp; omega
      go_wp2_with fail
      go_quiet (fail)
      have hk4 : Keep w (wr.drewN nq) := hk3.drewN _
      have hmu4 : Mut g w (wr.drewN nq) := hmu3.drewN _
      have hrow4 := hrow3.drewN nq
      clear ex2 ed0 hrow3 hk3 hmu3 hbd
      generalize wr.drewN nq = w4 at hk4 hmu4 hrow4 ⊢
      obtain ⟨G1, rfl⟩ : ∃ G1, G' = G1 + 1 := ⟨G' - 1, by omega⟩
      have HQ1 : Hid (∀ q, q * (4294967296 ^ o * val lb) ≤ val r → q ≤ G1) := by
        intro q hq
        have := KN.out.small q hq
        omega
      have HGL1 : Hid (G1 * d1 + (L' + d1) = T) := by
        show _ = _
        have := hGL.out
        rw [Nat.add_mul] at this
        omega
      by_cases hbr : 4294967295 < L' + d1
      · have hbrd : decide ((4294967295 : Int) < (L' : Int) + (d1 : Int)) = true := by simp; omega
        obtain ⟨hGf, hfit2⟩ := KN.out.brk G1 (L' + d1) (by rw [HGL1.out, HTT.out]) (by omega)
        have HNf : Hid (G1 * (4294967296 ^ o * val lb) ≤ val r + 4294967296 ^ o * val lb) := KN.out.near G1 (by omega) hfit2
        clear hfit2
        go_wp2_with fail
        have hTk := takeTimes_any g o (some ⟨b1, o1, none⟩) cb c G1 r lb w4 hrl hrow4 (hrb.keep hk4) hoff hm hmb hGf (by rw [hn]; omega)
        rw [hn, show m + 2 + 1 = m + 3 from rfl, show o + (m + 2) + 1 = o + (m + 3) by omega] at hTk
        refine hTk.mono ?_
        rintro e w5 ⟨s, r5, rfl, hs, hr5, hl5, hm5, hd5, hv5, hmu5⟩
        clear hTk
        rcases Nat.eq_zero_or_pos s with hs0 | hs0
        · subst hs0
          go_wp2_with fail
          try rw [Exit.noGoto_ret]
          go_ret
          refine ⟨G1, r5, ret_int (by omega), hGf, hr5, hl5, hm5, ?_, ?_, hmu4.trans hmu5⟩
          · rw [Nat.zero_mul, Nat.add_zero] at hv5
            rw [← hv5, Nat.mul_left_comm]
          · rcases Nat.lt_or_ge (val r5) (4294967296 ^ o * val lb) with h1 | h1
            · exact h1
            · exfalso
              rw [Nat.zero_mul, Nat.add_zero, Nat.mul_left_comm] at hv5
              have := HQ1.out (G1 + 1) (by rw [Nat.add_mul, Nat.one_mul]; omega)
              omega
        · have hs1 : s = 1 := by omega
          subst hs1
          clear hs hs0
          have hj : val r < 4294967296 ^ (o + (m + 3)) := by
            have hb := val_lt hmb
            rw [hn] at hb
            refine Nat.lt_of_lt_of_le HV.out ?_
            rw [show o + (m + 3) = o + 1 + (m + 2) by omega, Nat.pow_add 4294967296 (o + 1)]
            exact Nat.mul_le_mul_left _ (Nat.le_of_lt hb)
          have h5 := under r r5 hm5 (o + (m + 3)) hfit hl5 hd5 hj
          rw [Nat.one_mul, Nat.mul_left_comm] at hv5
          have hGp : 0 < G1 := by
            rcases Nat.eq_zero_or_pos G1 with h | h
            · rw [h, Nat.zero_mul] at hv5; omega
            · exact h
          obtain ⟨G2, rfl⟩ : ∃ G2, G1 = G2 + 1 := ⟨G1 - 1, by omega⟩
          have H5 : Hid (val r5 + (G2 + 1) * (4294967296 ^ o * val lb) = val r + 4294967296 ^ (o + (m + 3))) := hv5
          have H5b : Hid (val r5 < 4294967296 ^ (o + (m + 3))) := h5
          have HJ : Hid (val r < 4294967296 ^ (o + (m + 3))) := hj
          have Hd5 : Hid (r5.drop (o + (m + 3)) = r.drop (o + (m + 3))) := hd5
          clear hv5 h5 hj hd5
          have hA := fun wx (hr : Row wx g r5) (hx : Rd wx (some ⟨b1, o1, none⟩) lb) => addTimes_any g o (some ⟨b1, o1, none⟩) cb c 1 r5 lb wx (by omega) hr hx hoff hm5 hmb (by omega) (by omega)
          simp only [hn] at hA
          have hsl : ∀ wx, (Instr.slice 22 (.slice (some ⟨g, o, none⟩) (m + 3) c) none (some (.int .i64 ((m : Int) + 2))) none).run Tryd.prog wx = .ok (.slice (some ⟨g, o, none⟩) (m + 2) c) wx := fun wx => slice32_to wx g o (m + 3) c (m + 2) (by omega)
          have htn : ((m : Int) + 2).toNat = m + 2 := by omega
          have hdl : decide (0 ≤ (m : Int) + 2) = true := by simp; omega
          have hdl2 : decide ((m : Int) + 2 < (m : Int) + 3) = true := by simp
          obtain ⟨x, hx⟩ : ∃ x, r5.getD (o + (m + 2)) 0 = x := ⟨_, rfl⟩
          have hxl : x < 4294967296 := hx ▸ Lim_getD hm5 _
          have Hx : Hid (r5.getD (o + (m + 2)) 0 = x) := hx
          have hc5 := hr5.cell (o + (m + 2)) (by omega)
          have hfz5 := hr5.frozen (o + (m + 2))
          rw [hx] at hc5
          have hrb5 := (hrb.keep hk4).mut hmu5 hoff
          have hF : ∀ (wx : World) (r' : List Nat), Row wx g r' → r'.length = r5.length → r'.drop (o + (m + 2)) = r5.drop (o + (m + 2)) → wx.cell? ⟨g, o + (m + 2), none⟩ = some (.int .u32 (x : Nat)) ∧ wx.frozen? ⟨g, o + (m + 2), none⟩ = false := fun wx r' h1 h2 h3 =>
            ⟨by
              have h4 := h1.cell (o + (m + 2)) (by omega)
              have h6 : r'.getD (o + (m + 2)) 0 = x := by
                have h7 : (r'.drop (o + (m + 2))).getD 0 0 = (r5.drop (o + (m + 2))).getD 0 0 := by rw [h3]
                simp only [List.getD, List.getElem?_drop, Nat.add_zero] at h7
                rw [← hx]; exact h7
              rw [h6] at h4; exact h4, h1.frozen _⟩
          clear hx
          go_wp2_with fail
          go_region_with (go_at_call 121; refine (hA _ ?_ ?_).mono ?_; exact hr5; exact hrb5; rintro e w6 ⟨t, r6, rfl, htl, hr6, hl6, hm6, hd6, hv6, hmu6⟩; obtain ⟨hu6, hfz6⟩ := hF _ _ hr6 hl6 hd6)
          all_goals go_wp2
          all_goals
            try rw [Exit.noGoto_ret]
            go_ret
          all_goals
            have hYD : 4294967296 ^ o * val lb ≤ 4294967296 ^ (o + (m + 2)) := by
              have hb := val_lt hmb
              rw [hn] at hb
              rw [Nat.pow_add]
              exact Nat.mul_le_mul_left _ (Nat.le_of_lt hb)
            rw [Nat.one_mul] at hv6
            obtain ⟨hf1, hf2⟩ := back_all r r5 r6 (o + (m + 2)) x t G2 (4294967296 ^ o * val lb) hm6 (by omega) hl5 hl6 Hx.out Hd5.out hd6 HJ.out H5b.out H5.out HNf.out hv6 hYD
            refine ⟨G2, r6.set (o + (m + 2)) ((x + t) % 4294967296), ret_int (by omega), by omega, ?_, by rw [List.length_set, hl6, hl5], Lim_set hm6 _ _ (by omega), hf1, hf2, ((hmu4.trans hmu5).drew.trans hmu6).setCell _ _⟩
            have h := hr6.set (o + (m + 2)) ((x + t) % 4294967296)
            simpa using h
      · have hbrd : decide ((4294967295 : Int) < (L' : Int) + (d1 : Int)) = false := by simp; omega
        go_wp2_with fail
        go_roundw
        case rel => exact ⟨G1, L' + d1, by first | go_num | simp, by simp, HGL1, by omega, by omega, HQ1, hrow4, hk4, hmu4⟩
        case measure => simp [intOf]
    · have hbd : decide ((4294967295 : Int) < (G' : Int)) = false := by simp; omega
      have hp := prodB G' d0 (by omega) ld0
      obtain ⟨P, hP⟩ : ∃ P, G' * d0 = P := ⟨_, rfl⟩
      have hpi : (G' : Int) * (d0 : Int) = (P : Int) := by rw [← Int.natCast_mul, hP]
      rw [hP] at hp
      have HP : Hid (G' * d0 = P) := hP; clear hP
      have hor2 : bits BinOp.or IntKind.u64 ((L' : Int) * 4294967296) (x2 : Int) = ((L' * 4294967296 + x2 : Nat) : Int) := or64' L' x2 hL' lx2
      obtain ⟨U, hU⟩ : ∃ U, L' * 4294967296 + x2 = U := ⟨_, rfl⟩
      rw [hU] at hor2
      have HU : Hid (L' * 4294967296 + x2 = U) := hU; clear hU
      by_cases hgo : U < P
      · have hgd : decide ((U : Int) < (P : Int)) = true := by simp; omega
        go_wp2_with fail
        go_quiet (fail)
        have hk4 : Keep w (wr.drewN nq) := hk3.drewN _
        have hmu4 : Mut g w (wr.drewN nq) := hmu3.drewN _
        have hrow4 := hrow3.drewN nq
        clear ex2 ed0 hrow3 hk3 hmu3 hbd
        generalize wr.drewN nq = w4 at hk4 hmu4 hrow4 ⊢
        have hG0 : 0 < G' := by
          rcases Nat.eq_zero_or_pos G' with h | h
          · have := HP.out; rw [h, Nat.zero_mul] at this; omega
          · exact h
        have HQ1 : Hid (∀ q, q * (4294967296 ^ o * val lb) ≤ val r → q ≤ G' - 1) := by
          intro q hq
          have := KN.out.less G' L' q (by rw [hGL.out, HTT.out]) (by rw [HP.out, HU.out]; exact hgo) hq
          omega
        clear hpi hor2 hgd
        obtain ⟨G1, rfl⟩ : ∃ G1, G' = G1 + 1 := ⟨G' - 1, by omega⟩
        rw [Nat.add_sub_cancel] at HQ1
        have HGL1 : Hid (G1 * d1 + (L' + d1) = T) := by
          show _ = _
          have := hGL.out
          rw [Nat.add_mul] at this
          omega
        by_cases hbr : 4294967295 < L' + d1
        · have hbrd : decide ((4294967295 : Int) < (L' : Int) + (d1 : Int)) = true := by simp; omega
          obtain ⟨hGf, hfit2⟩ := KN.out.brk G1 (L' + d1) (by rw [HGL1.out, HTT.out]) (by omega)
          have HNf : Hid (G1 * (4294967296 ^ o * val lb) ≤ val r + 4294967296 ^ o * val lb) := KN.out.near G1 (by omega) hfit2
          clear hfit2
          go_wp2_with fail
          have hTk := takeTimes_any g o (some ⟨b1, o1, none⟩) cb c G1 r lb w4 hrl hrow4 (hrb.keep hk4) hoff hm hmb hGf (by rw [hn]; omega)
          rw [hn, show m + 2 + 1 = m + 3 from rfl, show o + (m + 2) + 1 = o + (m + 3) by omega] at hTk
          refine hTk.mono ?_
          rintro e w5 ⟨s, r5, rfl, hs, hr5, hl5, hm5, hd5, hv5, hmu5⟩
          clear hTk
          rcases Nat.eq_zero_or_pos s with hs0 | hs0
          · subst hs0
            go_wp2_with fail
            try rw [Exit.noGoto_ret]
            go_ret
            refine ⟨G1, r5, ret_int (by omega), hGf, hr5, hl5, hm5, ?_, ?_, hmu4.trans hmu5⟩
            · rw [Nat.zero_mul, Nat.add_zero] at hv5
              rw [← hv5, Nat.mul_left_comm]
            · rcases Nat.lt_or_ge (val r5) (4294967296 ^ o * val lb) with h1 | h1
              · exact h1
              · exfalso
                rw [Nat.zero_mul, Nat.add_zero, Nat.mul_left_comm] at hv5
                have := HQ1.out (G1 + 1) (by rw [Nat.add_mul, Nat.one_mul]; omega)
                omega
          · have hs1 : s = 1 := by omega
            subst hs1
            clear hs hs0
            have hj : val r < 4294967296 ^ (o + (m + 3)) := by
              have hb := val_lt hmb
              rw [hn] at hb
              refine Nat.lt_of_lt_of_le HV.out ?_
              rw [show o + (m + 3) = o + 1 + (m + 2) by omega, Nat.pow_add 4294967296 (o + 1)]
              exact Nat.mul_le_mul_left _ (Nat.le_of_lt hb)
            have h5 := under r r5 hm5 (o + (m + 3)) hfit hl5 hd5 hj
            rw [Nat.one_mul, Nat.mul_left_comm] at hv5
            have hGp : 0 < G1 := by
              rcases Nat.eq_zero_or_pos G1 with h | h
              · rw [h, Nat.zero_mul] at hv5; omega
              · exact h
            obtain ⟨G2, rfl⟩ : ∃ G2, G1 = G2 + 1 := ⟨G1 - 1, by omega⟩
            have H5 : Hid (val r5 + (G2 + 1) * (4294967296 ^ o * val lb) = val r + 4294967296 ^ (o + (m + 3))) := hv5
            have H5b : Hid (val r5 < 4294967296 ^ (o + (m + 3))) := h5
            have HJ : Hid (val r < 4294967296 ^ (o + (m + 3))) := hj
            have Hd5 : Hid (r5.drop (o + (m + 3)) = r.drop (o + (m + 3))) := hd5
            clear hv5 h5 hj hd5
            have hA := fun wx (hr : Row wx g r5) (hx : Rd wx (some ⟨b1, o1, none⟩) lb) => addTimes_any g o (some ⟨b1, o1, none⟩) cb c 1 r5 lb wx (by omega) hr hx hoff hm5 hmb (by omega) (by omega)
            simp only [hn] at hA
            have hsl : ∀ wx, (Instr.slice 22 (.slice (some ⟨g, o, none⟩) (m + 3) c) none (some (.int .i64 ((m : Int) + 2))) none).run Tryd.prog wx = .ok (.slice (some ⟨g, o, none⟩) (m + 2) c) wx := fun wx => slice32_to wx g o (m + 3) c (m + 2) (by omega)
            have htn : ((m : Int) + 2).toNat = m + 2 := by omega
            have hdl : decide (0 ≤ (m : Int) + 2) = true := by simp; omega
            have hdl2 : decide ((m : Int) + 2 < (m : Int) + 3) = true := by simp
            obtain ⟨x, hx⟩ : ∃ x, r5.getD (o + (m + 2)) 0 = x := ⟨_, rfl⟩
            have hxl : x < 4294967296 := hx ▸ Lim_getD hm5 _
            have Hx : Hid (r5.getD (o + (m + 2)) 0 = x) := hx
            have hc5 := hr5.cell (o + (m + 2)) (by omega)
            have hfz5 := hr5.frozen (o + (m + 2))
            rw [hx] at hc5
            have hrb5 := (hrb.keep hk4).mut hmu5 hoff
            have hF : ∀ (wx : World) (r' : List Nat), Row wx g r' → r'.length = r5.length → r'.drop (o + (m + 2)) = r5.drop (o + (m + 2)) → wx.cell? ⟨g, o + (m + 2), none⟩ = some (.int .u32 (x : Nat)) ∧ wx.frozen? ⟨g, o + (m + 2), none⟩ = false := fun wx r' h1 h2 h3 =>
              ⟨by
                have h4 := h1.cell (o + (m + 2)) (by omega)
                have h6 : r'.getD (o + (m + 2)) 0 = x := by
                  have h7 : (r'.drop (o + (m + 2))).getD 0 0 = (r5.drop (o + (m + 2))).getD 0 0 := by rw [h3]
                  simp only [List.getD, List.getElem?_drop, Nat.add_zero] at h7
                  rw [← hx]; exact h7
                rw [h6] at h4; exact h4, h1.frozen _⟩
            clear hx
            go_wp2_with fail
            go_region_with (go_at_call 121; refine (hA _ ?_ ?_).mono ?_; exact hr5; exact hrb5; rintro e w6 ⟨t, r6, rfl, htl, hr6, hl6, hm6, hd6, hv6, hmu6⟩; obtain ⟨hu6, hfz6⟩ := hF _ _ hr6 hl6 hd6)
            all_goals go_wp2
            all_goals
              try rw [Exit.noGoto_ret]
              go_ret
            all_goals
              have hYD : 4294967296 ^ o * val lb ≤ 4294967296 ^ (o + (m + 2)) := by
                have hb := val_lt hmb
                rw [hn] at hb
                rw [Nat.pow_add]
                exact Nat.mul_le_mul_left _ (Nat.le_of_lt hb)
              rw [Nat.one_mul] at hv6
              obtain ⟨hf1, hf2⟩ := back_all r r5 r6 (o + (m + 2)) x t G2 (4294967296 ^ o * val lb) hm6 (by omega) hl5 hl6 Hx.out Hd5.out hd6 HJ.out H5b.out H5.out HNf.out hv6 hYD
              refine ⟨G2, r6.set (o + (m + 2)) ((x + t) % 4294967296), ret_int (by omega), by omega, ?_, by rw [List.length_set, hl6, hl5], Lim_set hm6 _ _ (by omega), hf1, hf2, ((hmu4.trans hmu5).drew.trans hmu6).setCell _ _⟩
              have h := hr6.set (o + (m + 2)) ((x + t) % 4294967296)
              simpa using h
        · have hbrd : decide ((4294967295 : Int) < (L' : Int) + (d1 : Int)) = false := by simp; omega
          go_wp2_with fail
          go_roundw
          case rel => exact ⟨G1, L' + d1, by first | go_num | simp, by simp, HGL1, by omega, by omega, HQ1, hrow4, hk4, hmu4⟩
          case measure => simp [intOf]
      · have hgd : decide ((U : Int) < (P : Int)) = false := by simp; omega
        go_wp2_with fail
        go_quiet (fail)
        have hk4 : Keep w (wr.drewN nq) := hk3.drewN _
        have hmu4 : Mut g w (wr.drewN nq) := hmu3.drewN _
        have hrow4 := hrow3.drewN nq
        clear ex2 ed0 hrow3 hk3 hmu3 hbd
        generalize wr.drewN nq = w4 at hk4 hmu4 hrow4 ⊢
        have hGf : G' < 4294967296 := by omega
        have HNf : Hid (G' * (4294967296 ^ o * val lb) ≤ val r + 4294967296 ^ o * val lb) :=
          KN.out.near G' (by omega) (Knuth.fits G' L' (by rw [hGL.out, HTT.out]) (by rw [HP.out, HU.out]; omega))
        clear hpi hor2 hgd
        have HQ1 := hQ
        go_wp2_with fail
        have hTk := takeTimes_any g o (some ⟨b1, o1, none⟩) cb c G' r lb w4 hrl hrow4 (hrb.keep hk4) hoff hm hmb hGf (by rw [hn]; omega)
        rw [hn, show m + 2 + 1 = m + 3 from rfl, show o + (m + 2) + 1 = o + (m + 3) by omega] at hTk
        refine hTk.mono ?_
        rintro e w5 ⟨s, r5, rfl, hs, hr5, hl5, hm5, hd5, hv5, hmu5⟩
        clear hTk
        rcases Nat.eq_zero_or_pos s with hs0 | hs0
        · subst hs0
          go_wp2_with fail
          try rw [Exit.noGoto_ret]
          go_ret
          refine ⟨G', r5, ret_int (by omega), hGf, hr5, hl5, hm5, ?_, ?_, hmu4.trans hmu5⟩
          · rw [Nat.zero_mul, Nat.add_zero] at hv5
            rw [← hv5, Nat.mul_left_comm]
          · rcases Nat.lt_or_ge (val r5) (4294967296 ^ o * val lb) with h1 | h1
            · exact h1
            · exfalso
              rw [Nat.zero_mul, Nat.add_zero, Nat.mul_left_comm] at hv5
              have := HQ1.out (G' + 1) (by rw [Nat.add_mul, Nat.one_mul]; omega)
              omega
        · have hs1 : s = 1 := by omega
          subst hs1
          clear hs hs0
          have hj : val r < 4294967296 ^ (o + (m + 3)) := by
            have hb := val_lt hmb
            rw [hn] at hb
            refine Nat.lt_of_lt_of_le HV.out ?_
            rw [show o + (m + 3) = o + 1 + (m + 2) by omega, Nat.pow_add 4294967296 (o + 1)]
            exact Nat.mul_le_mul_left _ (Nat.le_of_lt hb)
          have h5 := under r r5 hm5 (o + (m + 3)) hfit hl5 hd5 hj
          rw [Nat.one_mul, Nat.mul_left_comm] at hv5
          have hGp : 0 < G' := by
            rcases Nat.eq_zero_or_pos G' with h | h
            · rw [h, Nat.zero_mul] at hv5; omega
            · exact h
          obtain ⟨G2, rfl⟩ : ∃ G2, G' = G2 + 1 := ⟨G' - 1, by omega⟩
          have H5 : Hid (val r5 + (G2 + 1) * (4294967296 ^ o * val lb) = val r + 4294967296 ^ (o + (m + 3))) := hv5
          have H5b : Hid (val r5 < 4294967296 ^ (o + (m + 3))) := h5
          have HJ : Hid (val r < 4294967296 ^ (o + (m + 3))) := hj
          have Hd5 : Hid (r5.drop (o + (m + 3)) = r.drop (o + (m + 3))) := hd5
          clear hv5 h5 hj hd5
          have hA := fun wx (hr : Row wx g r5) (hx : Rd wx (some ⟨b1, o1, none⟩) lb) => addTimes_any g o (some ⟨b1, o1, none⟩) cb c 1 r5 lb wx (by omega) hr hx hoff hm5 hmb (by omega) (by omega)
          simp only [hn] at hA
          have hsl : ∀ wx, (Instr.slice 22 (.slice (some ⟨g, o, none⟩) (m + 3) c) none (some (.int .i64 ((m : Int) + 2))) none).run Tryd.prog wx = .ok (.slice (some ⟨g, o, none⟩) (m + 2) c) wx := fun wx => slice32_to wx g o (m + 3) c (m + 2) (by omega)
          have htn : ((m : Int) + 2).toNat = m + 2 := by omega
          have hdl : decide (0 ≤ (m : Int) + 2) = true := by simp; omega
          have hdl2 : decide ((m : Int) + 2 < (m : Int) + 3) = true := by simp
          obtain ⟨x, hx⟩ : ∃ x, r5.getD (o + (m + 2)) 0 = x := ⟨_, rfl⟩
          have hxl : x < 4294967296 := hx ▸ Lim_getD hm5 _
          have Hx : Hid (r5.getD (o + (m + 2)) 0 = x) := hx
          have hc5 := hr5.cell (o + (m + 2)) (by omega)
          have hfz5 := hr5.frozen (o + (m + 2))
          rw [hx] at hc5
          have hrb5 := (hrb.keep hk4).mut hmu5 hoff
          have hF : ∀ (wx : World) (r' : List Nat), Row wx g r' → r'.length = r5.length → r'.drop (o + (m + 2)) = r5.drop (o + (m + 2)) → wx.cell? ⟨g, o + (m + 2), none⟩ = some (.int .u32 (x : Nat)) ∧ wx.frozen? ⟨g, o + (m + 2), none⟩ = false := fun wx r' h1 h2 h3 =>
            ⟨by
              have h4 := h1.cell (o + (m + 2)) (by omega)
              have h6 : r'.getD (o + (m + 2)) 0 = x := by
                have h7 : (r'.drop (o + (m + 2))).getD 0 0 = (r5.drop (o + (m + 2))).getD 0 0 := by rw [h3]
                simp only [List.getD, List.getElem?_drop, Nat.add_zero] at h7
                rw [← hx]; exact h7
              rw [h6] at h4; exact h4, h1.frozen _⟩
          clear hx
          go_wp2_with fail
          go_region_with (go_at_call 121; refine (hA _ ?_ ?_).mono ?_; exact hr5; exact hrb5; rintro e w6 ⟨t, r6, rfl, htl, hr6, hl6, hm6, hd6, hv6, hmu6⟩; obtain ⟨hu6, hfz6⟩ := hF _ _ hr6 hl6 hd6)
          all_goals go_wp2
          all_goals
            try rw [Exit.noGoto_ret]
            go_ret
          all_goals
            have hYD : 4294967296 ^ o * val lb ≤ 4294967296 ^ (o + (m + 2)) := by
              have hb := val_lt hmb
              rw [hn] at hb
              rw [Nat.pow_add]
              exact Nat.mul_le_mul_left _ (Nat.le_of_lt hb)
            rw [Nat.one_mul] at hv6
            obtain ⟨hf1, hf2⟩ := back_all r r5 r6 (o + (m + 2)) x t G2 (4294967296 ^ o * val lb) hm6 (by omega) hl5 hl6 Hx.out Hd5.out hd6 HJ.out H5b.out H5.out HNf.out hv6 hYD
            refine ⟨G2, r6.set (o + (m + 2)) ((x + t) % 4294967296), ret_int (by omega), by omega, ?_, by rw [List.length_set, hl6, hl5], Lim_set hm6 _ _ (by omega), hf1, hf2, ((hmu4.trans hmu5).drew.trans hmu6).setCell _ _⟩
            have h := hr6.set (o + (m + 2)) ((x + t) % 4294967296)
            simpa using h
end Go.Proofs.YtbjidpooociamaaDoor
