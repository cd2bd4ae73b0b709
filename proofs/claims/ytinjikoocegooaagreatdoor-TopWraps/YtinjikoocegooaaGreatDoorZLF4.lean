import Derived.Test.YtinjikoocegooaaGreatDoorProg
import Derived.Test.YtinjikoocegooaaGreatDoorLC10
import Derived.Test.YtinjikoocegooaaGreatDoorShelf
import Derived.Test.YtinjikoocegooaaGreatDoorZLF2
import Derived.WalkKit
import Derived.WalkSpells
import Derived.WalkLawsBesides
import Derived.Laws.CopyOwn
import Derived.Deep.Draws
import Derived.Deep.QuietTactic
import Derived.BigQuiet
import Derived.Laws.MathBits
import Derived.Shelf.Small.Bits
import Derived.Laws.BytesArg
import Derived.Lib.OthersKept
import Derived.Deep.RegionWith
import Derived.WalkMore
import Derived.Deep.LoopGhost
set_option linter.unusedVariables false
set_option linter.unusedSimpArgs false
namespace Go.Proofs.YtinjikoocegooaaGreatDoor.Li
open Go.RowKit Lb
set_option maxRecDepth 100000 in
theorem slice32_to (wx : World) (b o n c k : Nat) (hk : k ≤ c) : (Instr.slice 34 (.slice (some ⟨b, o, none⟩) n c) none (some (.int .i64 (k : Nat))) none).run Tryz.prog wx = .ok (.slice (some ⟨b, o, none⟩) k c) wx := by
  rw [run_slice_h (P := Tryz.prog) wx 34 (some ⟨b, o, none⟩) n c Tryz.underlying34 .i64 k (by omega) (by omega)]
  have e2 : (sizeOf (Tryz.prog.elem 34)).run Tryz.prog wx = .ok 1 wx := by kernel_rfl
  rw [e2]
  simp [Result.andThen, sliced, Addr.add]
set_option maxRecDepth 100000 in
set_option maxHeartbeats 1600000 in
theorem divideLimb_any (g o m : Nat) (b : Option Addr) (cb c : Nat) (r lb : List Nat) (w : World) (hrl : r.length ≤ 70368744177664) (hrow : Row w g r) (hrb : Rd w b lb) (hoff : Off g b lb) (hm : Lim r) (hmb : Lim lb)
    (hn : lb.length = m + 2) (hc : m + 3 ≤ c) (hfit : o + (m + 3) ≤ r.length) (hlead : 2147483648 ≤ lb.getD (m + 1) 0) (hV : val r < 4294967296 ^ (o + 1) * val lb) :
    Calls Tryz.prog 84 #[.slice (some ⟨g, o, none⟩) (m + 3) c, .slice b (m + 2) cb] w fun e w' => ∃ (q : Nat) (r' : List Nat), e = .returned (.int .u32 (q : Nat)) ∧ q < 4294967296 ∧ Row w' g r' ∧ r'.length = r.length ∧ Lim r' ∧ val r' + q * (4294967296 ^ o * val lb) = val r ∧ val r' < 4294967296 ^ o * val lb ∧ Mut g w w' := by
  obtain ⟨b1, o1, rfl, hcd1⟩ := hrb (m + 1) (by omega)
  obtain ⟨b2, o2, e2, hcd0⟩ := hrb m (by omega)
  simp only [Option.some.injEq, Addr.mk.injEq, and_true] at e2
  obtain ⟨rfl, rfl⟩ := e2
  have hcx0 := hrow.cell (o + (m + 2)) (by omega)
  have hcx1 := hrow.cell (o + (m + 1)) (by omega)
  have hcx2 := hrow.cell (o + m) (by omega)
  obtain ⟨x0, hx0⟩ : ∃ x, r.getD (o + (m + 2)) 0 = x := ⟨_, rfl⟩
  obtain ⟨x1, hx1⟩ : ∃ x, r.getD (o + (m + 1)) 0 = x := ⟨_, rfl⟩
  obtain ⟨x2, hx2⟩ : ∃ x, r.getD (o + m) 0 = x := ⟨_, rfl⟩
  obtain ⟨d1, hd1⟩ : ∃ x, lb.getD (m + 1) 0 = x := ⟨_, rfl⟩
  obtain ⟨d0, hd0⟩ : ∃ x, lb.getD m 0 = x := ⟨_, rfl⟩
  have lx0 : x0 < 4294967296 := hx0 ▸ Lim_getD hm _
  have lx1 : x1 < 4294967296 := hx1 ▸ Lim_getD hm _
  have lx2 : x2 < 4294967296 := hx2 ▸ Lim_getD hm _
  have ld1 : d1 < 4294967296 := hd1 ▸ Lim_getD hmb _
  have ld0 : d0 < 4294967296 := hd0 ▸ Lim_getD hmb _
  rw [hx0] at hcx0; rw [hx1] at hcx1; rw [hx2] at hcx2; rw [hd1] at hcd1 hlead; rw [hd0] at hcd0
  have KN : Hid (Knuth 4294967296 (val r) (4294967296 ^ o) (4294967296 ^ m) (val lb) d1 d0 (val (lb.take m)) x0 x1 x2 (val (r.take (o + m)))) :=
    knuth_of r lb o m d1 d0 x0 x1 x2 hm hmb hn hfit hV hx0 hx1 hx2 hd1 hd0 (by omega)
  have Hx2 : Hid (r.getD (o + m) 0 = x2) := hx2
  have Hd0 : Hid (lb.getD m 0 = d0) := hd0
  have HV : Hid (val r < 4294967296 ^ (o + 1) * val lb) := hV
  clear hx0 hx1 hx2 hd1 hd0 hV
  obtain ⟨T, hTT⟩ : ∃ T, x0 * 4294967296 + x1 = T := ⟨_, rfl⟩
  have hor : bits BinOp.or IntKind.u64 ((x0 : Int) * 4294967296) (x1 : Int) = (T : Int) := by rw [or64' x0 x1 lx0 lx1, hTT]
  obtain ⟨G, hG⟩ : ∃ G, T / d1 = G := ⟨_, rfl⟩
  obtain ⟨L, hL⟩ : ∃ L, T % d1 = L := ⟨_, rfl⟩
  have hGi : (T : Int) / (d1 : Int) = (G : Int) := by rw [← hG]; simp
  have hLi : (T : Int) % (d1 : Int) = (L : Int) := by rw [← hL]; simp
  have hTl : T < 18446744073709551616 := by omega
  have HTT : Hid (x0 * 4294967296 + x1 = T) := hTT
  have HGL : Hid (G * d1 + L = T) := by
    show _ = _
    rw [← hG, ← hL, Nat.mul_comm]; exact Nat.div_add_mod T d1
  have hGb : G ≤ 8589934592 := by rw [← hG]; exact Nat.le_trans (Nat.div_le_div_left hlead (by omega)) (by omega)
  have hLb : L < d1 := by rw [← hL]; exact Nat.mod_lt _ (by omega)
  clear hTT hG hL
  go_enter Tryz.func84, Tryz.ntmps84
  go_wp2
  go_step3
  go_wp2
  go_quiet (fail)
  have hk1 : Keep w (w.drewN nq) := (Keep.refl w).drewN _
  have hmu1 : Mut g w (w.drewN nq) := (Mut.refl g w).drewN _
  have hrow1 := hrow.drewN nq
  have cx2 : (w.drewN nq).cell? _ = _ := hcx2
  have cd1 : (w.drewN nq).cell? _ = _ := hcd1
  have cd0 : (w.drewN nq).cell? _ = _ := hcd0
  clear hcx0 hcx1 hcx2 hcd1 hcd0 hrow
  generalize w.drewN nq = w1 at hk1 hmu1 hrow1 cx2 cd1 cd0 ⊢
  go_wp2
  go_quiet (fail)
  have hk2 : Keep w (w1.drewN nq) := hk1.drewN _
  have hmu2 : Mut g w (w1.drewN nq) := hmu1.drewN _
  have hrow2 := hrow1.drewN nq
  have dx2 : (w1.drewN nq).cell? _ = _ := cx2
  have dd0 : (w1.drewN nq).cell? _ = _ := cd0
  clear cx2 cd1 cd0 hrow1 hk1 hmu1
  generalize w1.drewN nq = w2 at hk2 hmu2 hrow2 dx2 dd0 ⊢
  go_wp2
  go_step3
  go_wp2
  have HQ0 : Hid (∀ q, q * (4294967296 ^ o * val lb) ≤ val r → q ≤ G) := by
    intro q hq
    have h1 := KN.out.one q hq
    rw [HTT.out, ← HGL.out] at h1
    rcases Nat.lt_or_ge G q with h2 | h2
    · have h3 := Nat.mul_le_mul_right d1 (show G + 1 ≤ q from h2)
      rw [Nat.add_mul] at h3
      omega
    · exact h2
  have htop := KN.out.top
  go_loopw [8, 9] (fun gv lv wr => ∃ G' L' : Nat, gv = .int .u64 G' ∧ lv = .int .u64 L' ∧ Hid (G' * d1 + L' = T) ∧ L' < 4294967296 ∧ G' ≤ 8589934592 ∧ Hid (∀ q, q * (4294967296 ^ o * val lb) ≤ val r → q ≤ G') ∧ Row wr g r ∧ Keep w wr ∧ Mut g w wr) (fun gv _ _ => (intOf gv).toNat)
  case atStart => exact ⟨G, L, rfl, by rw [hLi], HGL, by omega, hGb, HQ0, hrow2, hk2, hmu2⟩
  case round =>
    obtain ⟨G', L', rfl, rfl, hGL, hL', hG', hQ, hrow3, hk3, hmu3⟩ := hrel
    have ex2 := hrow3.cell (o + m) (by omega)
    rw [Hx2.out] at ex2
    obtain ⟨b4, o4, e4, ed0⟩ := (hrb.keep hk3) m (by omega)
    simp only [Option.some.injEq, Addr.mk.injEq, and_true] at e4
    obtain ⟨rfl, rfl⟩ := e4
    rw [Hd0.out] at ed0
    by_cases hbig : 4294967295 < G'
    · have hbd : decide ((4294967295 : Int) < (G' : Int)) = true := by simp; omega
      go_wp2_with fail
      go_quiet (fail)
      have hk4 : Keep w (wr.drewN nq) := hk3.drewN _
      have hmu4 : Mut g w (wr.drewN nq) := hmu3.drewN _
      have hrow4 := hrow3.drewN nq
      clear ex2 ed0 hrow3 hk3 hmu3 hbd
      generalize wr.drewN nq = w4 at hk4 hmu4 hrow4 ⊢
      obtain ⟨G1, rfl⟩ : ∃ G1, G' = G1 + 1 := ⟨G' - 1, by omega⟩
      have HQ1 : Hid (∀ q, q * (4294967296 ^ o * val lb) ≤ val r → q ≤ G1) := by
        intro q hq
        have := KN.out.small q hq
        omega
      have HGL1 : Hid (G1 * d1 + (L' + d1) = T) := by
        show _ = _
        have := hGL.out
        rw [Nat.add_mul] at this
        omega
      by_cases hbr : 4294967295 < L' + d1
      · have hbrd : decide ((4294967295 : Int) < (L' : Int) + (d1 : Int)) = true := by simp; omega
        obtain ⟨hGf, hfit2⟩ := KN.out.brk G1 (L' + d1) (by rw [HGL1.out, HTT.out]) (by omega)
        have HNf : Hid (G1 * (4294967296 ^ o * val lb) ≤ val r + 4294967296 ^ o * val lb) := KN.out.near G1 (by omega) hfit2
        clear hfit2
        go_wp2_with fail
        have hTk := takeTimes_any g o (some ⟨b1, o1, none⟩) cb c G1 r lb w4 hrl hrow4 (hrb.keep hk4) hoff hm hmb hGf (by rw [hn]; omega)
        rw [hn, show m + 2 + 1 = m + 3 from rfl, show o + (m + 2) + 1 = o + (m + 3) by omega] at hTk
        refine hTk.mono ?_
        rintro e w5 ⟨s, r5, rfl, hs, hr5, hl5, hm5, hd5, hv5, hmu5⟩
        clear hTk
        rcases Nat.eq_zero_or_pos s with hs0 | hs0
        · subst hs0
          go_wp2_with fail
          try rw [Exit.noGoto_ret]
          go_ret
          refine ⟨G1, r5, ret_int (by omega), hGf, hr5, hl5, hm5, ?_, ?_, hmu4.trans hmu5⟩
          · rw [Nat.zero_mul, Nat.add_zero] at hv5
            rw [← hv5, Nat.mul_left_comm]
          · rcases Nat.lt_or_ge (val r5) (4294967296 ^ o * val lb) with h1 | h1
            · exact h1
            · exfalso
              rw [Nat.zero_mul, Nat.add_zero, Nat.mul_left_comm] at hv5
              have := HQ1.out (G1 + 1) (by rw [Nat.add_mul, Nat.one_mul]; omega)
              omega
        · have hs1 : s = 1 := by omega
          subst hs1
          clear hs hs0
          have hj : val r < 4294967296 ^ (o + (m + 3)) := by
            have hb := val_lt hmb
            rw [hn] at hb
            refine Nat.lt_of_lt_of_le HV.out ?_
            rw [show o + (m + 3) = o + 1 + (m + 2) by omega, Nat.pow_add 4294967296 (o + 1)]
            exact Nat.mul_le_mul_left _ (Nat.le_of_lt hb)
          have h5 := under r r5 hm5 (o + (m + 3)) hfit hl5 hd5 hj
          rw [Nat.one_mul, Nat.mul_left_comm] at hv5
          have hGp : 0 < G1 := by
            rcases Nat.eq_zero_or_pos G1 with h | h
            · rw [h, Nat.zero_mul] at hv5; omega
            · exact h
          obtain ⟨G2, rfl⟩ : ∃ G2, G1 = G2 + 1 := ⟨G1 - 1, by omega⟩
          have H5 : Hid (val r5 + (G2 + 1) * (4294967296 ^ o * val lb) = val r + 4294967296 ^ (o + (m + 3))) := hv5
          have H5b : Hid (val r5 < 4294967296 ^ (o + (m + 3))) := h5
          have HJ : Hid (val r < 4294967296 ^ (o + (m + 3))) := hj
          have Hd5 : Hid (r5.drop (o + (m + 3)) = r.drop (o + (m + 3))) := hd5
          clear hv5 h5 hj hd5
          have hA := fun wx (hr : Row wx g r5) (hx : Rd wx (some ⟨b1, o1, none⟩) lb) => addTimes_any g o (some ⟨b1, o1, none⟩) cb c 1 r5 lb wx (by omega) hr hx hoff hm5 hmb (by omega) (by omega)
          simp only [hn] at hA
          have hsl : ∀ wx, (Instr.slice 34 (.slice (some ⟨g, o, none⟩) (m + 3) c) none (some (.int .i64 ((m : Int) + 2))) none).run Tryz.prog wx = .ok (.slice (some ⟨g, o, none⟩) (m + 2) c) wx := fun wx => slice32_to wx g o (m + 3) c (m + 2) (by omega)
          have htn : ((m : Int) + 2).toNat = m + 2 := by omega
          have hdl : decide (0 ≤ (m : Int) + 2) = true := by simp; omega
          have hdl2 : decide ((m : Int) + 2 < (m : Int) + 3) = true := by simp
          obtain ⟨x, hx⟩ : ∃ x, r5.getD (o + (m + 2)) 0 = x := ⟨_, rfl⟩
          have hxl : x < 4294967296 := hx ▸ Lim_getD hm5 _
          have Hx : Hid (r5.getD (o + (m + 2)) 0 = x) := hx
          have hc5 := hr5.cell (o + (m + 2)) (by omega)
          have hfz5 := hr5.frozen (o + (m + 2))
          rw [hx] at hc5
          have hrb5 := (hrb.keep hk4).mut hmu5 hoff
          have hF : ∀ (wx : World) (r' : List Nat), Row wx g r' → r'.length = r5.length → r'.drop (o + (m + 2)) = r5.drop (o + (m + 2)) → wx.cell? ⟨g, o + (m + 2), none⟩ = some (.int .u32 (x : Nat)) ∧ wx.frozen? ⟨g, o + (m + 2), none⟩ = false := fun wx r' h1 h2 h3 =>
            ⟨by
              have h4 := h1.cell (o + (m + 2)) (by omega)
              have h6 : r'.getD (o + (m + 2)) 0 = x := by
                have h7 : (r'.drop (o + (m + 2))).getD 0 0 = (r5.drop (o + (m + 2))).getD 0 0 := by rw [h3]
                simp only [List.getD, List.getElem?_drop, Nat.add_zero] at h7
                rw [← hx]; exact h7
              rw [h6] at h4; exact h4, h1.frozen _⟩
          clear hx
          go_wp2_with fail
          go_region_with (go_at_call 98; refine (hA _ ?_ ?_).mono ?_; exact hr5; exact hrb5; rintro e w6 ⟨t, r6, rfl, htl, hr6, hl6, hm6, hd6, hv6, hmu6⟩; obtain ⟨hu6, hfz6⟩ := hF _ _ hr6 hl6 hd6)
          all_goals go_wp2
          all_goals
            try rw [Exit.noGoto_ret]
            go_ret
          all_goals
            have hYD : 4294967296 ^ o * val lb ≤ 4294967296 ^ (o + (m + 2)) := by
              have hb := val_lt hmb
              rw [hn] at hb
              rw [Nat.pow_add]
              exact Nat.mul_le_mul_left _ (Nat.le_of_lt hb)
            rw [Nat.one_mul] at hv6
            obtain ⟨hf1, hf2⟩ := back_all r r5 r6 (o + (m + 2)) x t G2 (4294967296 ^ o * val lb) hm6 (by omega) hl5 hl6 Hx.out Hd5.out hd6 HJ.out H5b.out H5.out HNf.out hv6 hYD
            refine ⟨G2, r6.set (o + (m + 2)) ((x + t) % 4294967296), ret_int (by omega), by omega, ?_, by rw [List.length_set, hl6, hl5], Lim_set hm6 _ _ (by omega), hf1, hf2, ((hmu4.trans hmu5).drew.trans hmu6).setCell _ _⟩
            have h := hr6.set (o + (m + 2)) ((x + t) % 4294967296)
            simpa using h
      · have hbrd : decide ((4294967295 : Int) < (L' : Int) + (d1 : Int)) = false := by simp; omega
        go_wp2_with fail
        go_roundw
        case rel => exact ⟨G1, L' + d1, by first | go_num | simp, by simp, HGL1, by omega, by omega, HQ1, hrow4, hk4, hmu4⟩
        case measure => simp [intOf]
    · have hbd : decide ((4294967295 : Int) < (G' : Int)) = false := by simp; omega
      have hp := prodB G' d0 (by omega) ld0
      obtain ⟨P, hP⟩ : ∃ P, G' * d0 = P := ⟨_, rfl⟩
      have hpi : (G' : Int) * (d0 : Int) = (P : Int) := by rw [← Int.natCast_mul, hP]
      rw [hP] at hp
      have HP : Hid (G' * d0 = P) := hP; clear hP
      have hor2 : bits BinOp.or IntKind.u64 ((L' : Int) * 4294967296) (x2 : Int) = ((L' * 4294967296 + x2 : Nat) : Int) := or64' L' x2 hL' lx2
      obtain ⟨U, hU⟩ : ∃ U, L' * 4294967296 + x2 = U := ⟨_, rfl⟩
      rw [hU] at hor2
      have HU : Hid (L' * 4294967296 + x2 = U) := hU; clear hU
      by_cases hgo : U < P
      · have hgd : decide ((U : Int) < (P : Int)) = true := by simp; omega
        go_wp2_with fail
        go_quiet (fail)
        have hk4 : Keep w (wr.drewN nq) := hk3.drewN _
        have hmu4 : Mut g w (wr.drewN nq) := hmu3.drewN _
        have hrow4 := hrow3.drewN nq
        clear ex2 ed0 hrow3 hk3 hmu3 hbd
        generalize wr.drewN nq = w4 at hk4 hmu4 hrow4 ⊢
        have hG0 : 0 < G' := by
          rcases Nat.eq_zero_or_pos G' with h | h
          · have := HP.out; rw [h, Nat.zero_mul] at this; omega
          · exact h
        have HQ1 : Hid (∀ q, q * (4294967296 ^ o * val lb) ≤ val r → q ≤ G' - 1) := by
          intro q hq
          have := KN.out.less G' L' q (by rw [hGL.out, HTT.out]) (by rw [HP.out, HU.out]; exact hgo) hq
          omega
        clear hpi hor2 hgd
        obtain ⟨G1, rfl⟩ : ∃ G1, G' = G1 + 1 := ⟨G' - 1, by omega⟩
        rw [Nat.add_sub_cancel] at HQ1
        have HGL1 : Hid (G1 * d1 + (L' + d1) = T) := by
          show _ = _
          have := hGL.out
          rw [Nat.add_mul] at this
          omega
        by_cases hbr : 4294967295 < L' + d1
        · have hbrd : decide ((4294967295 : Int) < (L' : Int) + (d1 : Int)) = true := by simp; omega
          obtain ⟨hGf, hfit2⟩ := KN.out.brk G1 (L' + d1) (by rw [HGL1.out, HTT.out]) (by omega)
          have HNf : Hid (G1 * (4294967296 ^ o * val lb) ≤ val r + 4294967296 ^ o * val lb) := KN.out.near G1 (by omega) hfit2
          clear hfit2
          go_wp2_with fail
          have hTk := takeTimes_any g o (some ⟨b1, o1, none⟩) cb c G1 r lb w4 hrl hrow4 (hrb.keep hk4) hoff hm hmb hGf (by rw [hn]; omega)
          rw [hn, show m + 2 + 1 = m + 3 from rfl, show o + (m + 2) + 1 = o + (m + 3) by omega] at hTk
          refine hTk.mono ?_
          rintro e w5 ⟨s, r5, rfl, hs, hr5, hl5, hm5, hd5, hv5, hmu5⟩
          clear hTk
          rcases Nat.eq_zero_or_pos s with hs0 | hs0
          · subst hs0
            go_wp2_with fail
            try rw [Exit.noGoto_ret]
            go_ret
            refine ⟨G1, r5, ret_int (by omega), hGf, hr5, hl5, hm5, ?_, ?_, hmu4.trans hmu5⟩
            · rw [Nat.zero_mul, Nat.add_zero] at hv5
              rw [← hv5, Nat.mul_left_comm]
            · rcases Nat.lt_or_ge (val r5) (4294967296 ^ o * val lb) with h1 | h1
              · exact h1
              · exfalso
                rw [Nat.zero_mul, Nat.add_zero, Nat.mul_left_comm] at hv5
                have := HQ1.out (G1 + 1) (by rw [Nat.add_mul, Nat.one_mul]; omega)
                omega
          · have hs1 : s = 1 := by omega
            subst hs1
            clear hs hs0
            have hj : val r < 4294967296 ^ (o + (m + 3)) := by
              have hb := val_lt hmb
              rw [hn] at hb
              refine Nat.lt_of_lt_of_le HV.out ?_
              rw [show o + (m + 3) = o + 1 + (m + 2) by omega, Nat.pow_add 4294967296 (o + 1)]
              exact Nat.mul_le_mul_left _ (Nat.le_of_lt hb)
            have h5 := under r r5 hm5 (o + (m + 3)) hfit hl5 hd5 hj
            rw [Nat.one_mul, Nat.mul_left_comm] at hv5
            have hGp : 0 < G1 := by
              rcases Nat.eq_zero_or_pos G1 with h | h
              · rw [h, Nat.zero_mul] at hv5; omega
              · exact h
            obtain ⟨G2, rfl⟩ : ∃ G2, G1 = G2 + 1 := ⟨G1 - 1, by omega⟩
            have H5 : Hid (val r5 + (G2 + 1) * (4294967296 ^ o * val lb) = val r + 4294967296 ^ (o + (m + 3))) := hv5
            have H5b : Hid (val r5 < 4294967296 ^ (o + (m + 3))) := h5
            have HJ : Hid (val r < 4294967296 ^ (o + (m + 3))) := hj
            have Hd5 : Hid (r5.drop (o + (m + 3)) = r.drop (o + (m + 3))) := hd5
            clear hv5 h5 hj hd5
            have hA := fun wx (hr : Row wx g r5) (hx : Rd wx (some ⟨b1, o1, none⟩) lb) => addTimes_any g o (some ⟨b1, o1, none⟩) cb c 1 r5 lb wx (by omega) hr hx hoff hm5 hmb (by omega) (by omega)
            simp only [hn] at hA
            have hsl : ∀ wx, (Instr.slice 34 (.slice (some ⟨g, o, none⟩) (m + 3) c) none (some (.int .i64 ((m : Int) + 2))) none).run Tryz.prog wx = .ok (.slice (some ⟨g, o, none⟩) (m + 2) c) wx := fun wx => slice32_to wx g o (m + 3) c (m + 2) (by omega)
            have htn : ((m : Int) + 2).toNat = m + 2 := by omega
            have hdl : decide (0 ≤ (m : Int) + 2) = true := by simp; omega
            have hdl2 : decide ((m : Int) + 2 < (m : Int) + 3) = true := by simp
            obtain ⟨x, hx⟩ : ∃ x, r5.getD (o + (m + 2)) 0 = x := ⟨_, rfl⟩
            have hxl : x < 4294967296 := hx ▸ Lim_getD hm5 _
            have Hx : Hid (r5.getD (o + (m + 2)) 0 = x) := hx
            have hc5 := hr5.cell (o + (m + 2)) (by omega)
            have hfz5 := hr5.frozen (o + (m + 2))
            rw [hx] at hc5
            have hrb5 := (hrb.keep hk4).mut hmu5 hoff
            have hF : ∀ (wx : World) (r' : List Nat), Row wx g r' → r'.length = r5.length → r'.drop (o + (m + 2)) = r5.drop (o + (m + 2)) → wx.cell? ⟨g, o + (m + 2), none⟩ = some (.int .u32 (x : Nat)) ∧ wx.frozen? ⟨g, o + (m + 2), none⟩ = false := fun wx r' h1 h2 h3 =>
              ⟨by
                have h4 := h1.cell (o + (m + 2)) (by omega)
                have h6 : r'.getD (o + (m + 2)) 0 = x := by
                  have h7 : (r'.drop (o + (m + 2))).getD 0 0 = (r5.drop (o + (m + 2))).getD 0 0 := by rw [h3]
                  simp only [List.getD, List.getElem?_drop, Nat.add_zero] at h7
                  rw [← hx]; exact h7
                rw [h6] at h4; exact h4, h1.frozen _⟩
            clear hx
            go_wp2_with fail
            go_region_with (go_at_call 98; refine (hA _ ?_ ?_).mono ?_; exact hr5; exact hrb5; rintro e w6 ⟨t, r6, rfl, htl, hr6, hl6, hm6, hd6, hv6, hmu6⟩; obtain ⟨hu6, hfz6⟩ := hF _ _ hr6 hl6 hd6)
            all_goals go_wp2
            all_goals
              try rw [Exit.noGoto_ret]
              go_ret
            all_goals
              have hYD : 4294967296 ^ o * val lb ≤ 4294967296 ^ (o + (m + 2)) := by
                have hb := val_lt hmb
                rw [hn] at hb
                rw [Nat.pow_add]
                exact Nat.mul_le_mul_left _ (Nat.le_of_lt hb)
              rw [Nat.one_mul] at hv6
              obtain ⟨hf1, hf2⟩ := back_all r r5 r6 (o + (m + 2)) x t G2 (4294967296 ^ o * val lb) hm6 (by omega) hl5 hl6 Hx.out Hd5.out hd6 HJ.out H5b.out H5.out HNf.out hv6 hYD
              refine ⟨G2, r6.set (o + (m + 2)) ((x + t) % 4294967296), ret_int (by omega), by omega, ?_, by rw [List.length_set, hl6, hl5], Lim_set hm6 _ _ (by omega), hf1, hf2, ((hmu4.trans hmu5).drew.trans hmu6).setCell _ _⟩
              have h := hr6.set (o + (m + 2)) ((x + t) % 4294967296)
              simpa using h
        · have hbrd : decide ((4294967295 : Int) < (L' : Int) + (d1 : Int)) = false := by simp; omega
          go_wp2_with fail
          go_roundw
          case rel => exact ⟨G1, L' + d1, by first | go_num | simp, by simp, HGL1, by omega, by omega, HQ1, hrow4, hk4, hmu4⟩
          case measure => simp [intOf]
      · have hgd : decide ((U : Int) < (P : Int)) = false := by simp; omega
        go_wp2_with fail
        go_quiet (fail)
        have hk4 : Keep w (wr.drewN nq) := hk3.drewN _
        have hmu4 : Mut g w (wr.drewN nq) := hmu3.drewN _
        have hrow4 := hrow3.drewN nq
        clear ex2 ed0 hrow3 hk3 hmu3 hbd
        generalize wr.drewN nq = w4 at hk4 hmu4 hrow4 ⊢
        have hGf : G' < 4294967296 := by omega
        have HNf : Hid (G' * (4294967296 ^ o * val lb) ≤ val r + 4294967296 ^ o * val lb) :=
          KN.out.near G' (by omega) (Knuth.fits G' L' (by rw [hGL.out, HTT.out]) (by rw [HP.out, HU.out]; omega))
        clear hpi hor2 hgd
        have HQ1 := hQ
        go_wp2_with fail
        have hTk := takeTimes_any g o (some ⟨b1, o1, none⟩) cb c G' r lb w4 hrl hrow4 (hrb.keep hk4) hoff hm hmb hGf (by rw [hn]; omega)
        rw [hn, show m + 2 + 1 = m + 3 from rfl, show o + (m + 2) + 1 = o + (m + 3) by omega] at hTk
        refine hTk.mono ?_
        rintro e w5 ⟨s, r5, rfl, hs, hr5, hl5, hm5, hd5, hv5, hmu5⟩
        clear hTk
        rcases Nat.eq_zero_or_pos s with hs0 | hs0
        · subst hs0
          go_wp2_with fail
          try rw [Exit.noGoto_ret]
          go_ret
          refine ⟨G', r5, ret_int (by omega), hGf, hr5, hl5, hm5, ?_, ?_, hmu4.trans hmu5⟩
          · rw [Nat.zero_mul, Nat.add_zero] at hv5
            rw [← hv5, Nat.mul_left_comm]
          · rcases Nat.lt_or_ge (val r5) (4294967296 ^ o * val lb) with h1 | h1
            · exact h1
            · exfalso
              rw [Nat.zero_mul, Nat.add_zero, Nat.mul_left_comm] at hv5
              have := HQ1.out (G' + 1) (by rw [Nat.add_mul, Nat.one_mul]; omega)
              omega
        · have hs1 : s = 1 := by omega
          subst hs1
          clear hs hs0
          have hj : val r < 4294967296 ^ (o + (m + 3)) := by
            have hb := val_lt hmb
            rw [hn] at hb
            refine Nat.lt_of_lt_of_le HV.out ?_
            rw [show o + (m + 3) = o + 1 + (m + 2) by omega, Nat.pow_add 4294967296 (o + 1)]
            exact Nat.mul_le_mul_left _ (Nat.le_of_lt hb)
          have h5 := under r r5 hm5 (o + (m + 3)) hfit hl5 hd5 hj
          rw [Nat.one_mul, Nat.mul_left_comm] at hv5
          have hGp : 0 < G' := by
            rcases Nat.eq_zero_or_pos G' with h | h
            · rw [h, Nat.zero_mul] at hv5; omega
            · exact h
          obtain ⟨G2, rfl⟩ : ∃ G2, G' = G2 + 1 := ⟨G' - 1, by omega⟩
          have H5 : Hid (val r5 + (G2 + 1) * (4294967296 ^ o * val lb) = val r + 4294967296 ^ (o + (m + 3))) := hv5
          have H5b : Hid (val r5 < 4294967296 ^ (o + (m + 3))) := h5
          have HJ : Hid (val r < 4294967296 ^ (o + (m + 3))) := hj
          have Hd5 : Hid (r5.drop (o + (m + 3)) = r.drop (o + (m + 3))) := hd5
          clear hv5 h5 hj hd5
          have hA := fun wx (hr : Row wx g r5) (hx : Rd wx (some ⟨b1, o1, none⟩) lb) => addTimes_any g o (some ⟨b1, o1, none⟩) cb c 1 r5 lb wx (by omega) hr hx hoff hm5 hmb (by omega) (by omega)
          simp only [hn] at hA
          have hsl : ∀ wx, (Instr.slice 34 (.slice (some ⟨g, o, none⟩) (m + 3) c) none (some (.int .i64 ((m : Int) + 2))) none).run Tryz.prog wx = .ok (.slice (some ⟨g, o, none⟩) (m + 2) c) wx := fun wx => slice32_to wx g o (m + 3) c (m + 2) (by omega)
          have htn : ((m : Int) + 2).toNat = m + 2 := by omega
          have hdl : decide (0 ≤ (m : Int) + 2) = true := by simp; omega
          have hdl2 : decide ((m : Int) + 2 < (m : Int) + 3) = true := by simp
          obtain ⟨x, hx⟩ : ∃ x, r5.getD (o + (m + 2)) 0 = x := ⟨_, rfl⟩
          have hxl : x < 4294967296 := hx ▸ Lim_getD hm5 _
          have Hx : Hid (r5.getD (o + (m + 2)) 0 = x) := hx
          have hc5 := hr5.cell (o + (m + 2)) (by omega)
          have hfz5 := hr5.frozen (o + (m + 2))
          rw [hx] at hc5
          have hrb5 := (hrb.keep hk4).mut hmu5 hoff
          have hF : ∀ (wx : World) (r' : List Nat), Row wx g r' → r'.length = r5.length → r'.drop (o + (m + 2)) = r5.drop (o + (m + 2)) → wx.cell? ⟨g, o + (m + 2), none⟩ = some (.int .u32 (x : Nat)) ∧ wx.frozen? ⟨g, o + (m + 2), none⟩ = false := fun wx r' h1 h2 h3 =>
            ⟨by
              have h4 := h1.cell (o + (m + 2)) (by omega)
              have h6 : r'.getD (o + (m + 2)) 0 = x := by
                have h7 : (r'.drop (o + (m + 2))).getD 0 0 = (r5.drop (o + (m + 2))).getD 0 0 := by rw [h3]
                simp only [List.getD, List.getElem?_drop, Nat.add_zero] at h7
                rw [← hx]; exact h7
              rw [h6] at h4; exact h4, h1.frozen _⟩
          clear hx
          go_wp2_with fail
          go_region_with (go_at_call 98; refine (hA _ ?_ ?_).mono ?_; exact hr5; exact hrb5; rintro e w6 ⟨t, r6, rfl, htl, hr6, hl6, hm6, hd6, hv6, hmu6⟩; obtain ⟨hu6, hfz6⟩ := hF _ _ hr6 hl6 hd6)
          all_goals go_wp2
          all_goals
            try rw [Exit.noGoto_ret]
            go_ret
          all_goals
            have hYD : 4294967296 ^ o * val lb ≤ 4294967296 ^ (o + (m + 2)) := by
              have hb := val_lt hmb
              rw [hn] at hb
              rw [Nat.pow_add]
              exact Nat.mul_le_mul_left _ (Nat.le_of_lt hb)
            rw [Nat.one_mul] at hv6
            obtain ⟨hf1, hf2⟩ := back_all r r5 r6 (o + (m + 2)) x t G2 (4294967296 ^ o * val lb) hm6 (by omega) hl5 hl6 Hx.out Hd5.out hd6 HJ.out H5b.out H5.out HNf.out hv6 hYD
            refine ⟨G2, r6.set (o + (m + 2)) ((x + t) % 4294967296), ret_int (by omega), by omega, ?_, by rw [List.length_set, hl6, hl5], Lim_set hm6 _ _ (by omega), hf1, hf2, ((hmu4.trans hmu5).drew.trans hmu6).setCell _ _⟩
            have h := hr6.set (o + (m + 2)) ((x + t) % 4294967296)
            simpa using h
end Go.Proofs.YtinjikoocegooaaGreatDoor.Li
set_option linter.unusedVariables false
set_option linter.unusedSimpArgs false
namespace Go.Proofs.YtinjikoocegooaaGreatDoor.Li
open Go.RowKit Lb
theorem lead_norm (lb : List Nat) (m d1 s L : Nat) (hmb : Lim lb) (hn : lb.length = m + 2) (hd1 : lb.getD (m + 1) 0 = d1) (h0 : 0 < d1) (hL : bitLen d1 = L) (hs : s + L = 32) :
    s ≤ 31 ∧ val lb * 2 ^ s < 4294967296 ^ (m + 2) ∧ 2147483648 * 4294967296 ^ (m + 1) ≤ val lb * 2 ^ s := by
  have hsp := bitLen_spec d1
  rw [hL] at hsp
  obtain ⟨h1, h2⟩ := hsp
  have h2 := h2 (by omega)
  have hL0 : 0 < L := by
    rcases Nat.eq_zero_or_pos L with h | h
    · rw [h] at h1; simp at h1; omega
    · exact h
  have hv := val_take_succ lb (m + 1)
  rw [List.take_of_length_le (by omega), hd1] at hv
  have hb := take_bound lb hmb (m + 1)
  have e1 : 2 ^ s * 2 ^ L = 4294967296 := by rw [← Nat.pow_add, hs]
  have e2 : 2 ^ s * 2 ^ (L - 1) = 2147483648 := by rw [← Nat.pow_add, show s + (L - 1) = 31 by omega]
  have hP : 0 < 2 ^ s := Nat.pos_of_ne_zero (by simp)
  rw [Nat.pow_succ 4294967296 (m + 1)]
  generalize 2 ^ s = P at *
  generalize 2 ^ L = E at *
  generalize 2 ^ (L - 1) = F at *
  generalize 4294967296 ^ (m + 1) = X at *
  generalize val (lb.take (m + 1)) = lo at *
  refine ⟨by omega, ?_, ?_⟩
  · have h3 : val lb < E * X := by
      have := Nat.mul_le_mul_right X (show d1 + 1 ≤ E from h1)
      rw [Nat.add_mul] at this
      omega
    have h4 : val lb * P < E * X * P := Nat.mul_lt_mul_of_pos_right h3 hP
    have h5 : E * X * P = X * 4294967296 := by rw [← e1]; grind
    omega
  · have h3 : F * X ≤ val lb := by
      have := Nat.mul_le_mul_right X h2
      omega
    have h4 := Nat.mul_le_mul_right P h3
    have h5 : F * X * P = 2147483648 * X := by rw [← e2]; grind
    omega
theorem lead_of (l : List Nat) (m : Nat) (hm : Lim l) (hn : l.length = m + 2) (h : 2147483648 * 4294967296 ^ (m + 1) ≤ val l) : 2147483648 ≤ l.getD (m + 1) 0 := by
  have hv := val_take_succ l (m + 1)
  rw [List.take_of_length_le (by omega)] at hv
  have hb := take_bound l hm (m + 1)
  generalize 4294967296 ^ (m + 1) = X at *
  have : 2147483648 * X < (l.getD (m + 1) 0 + 1) * X := by rw [Nat.add_mul]; omega
  have := Nat.lt_of_mul_lt_mul_right this
  omega
theorem div_end (q D A rem a b P : Nat) (hP : 0 < P) (hA : A = a * P) (hD : D = b * P) (h : q * D + rem = A) (hr : rem < D) : q = a / b ∧ rem / P = a % b := by
  have h0 : 0 < D := by omega
  have h1 : A / D = q := by rw [← h, Nat.add_comm, Nat.add_mul_div_right _ _ h0, Nat.div_eq_of_lt hr, Nat.zero_add]
  have h2 : A % D = rem := by rw [← h, Nat.add_comm, Nat.add_mul_mod_self_right, Nat.mod_eq_of_lt hr]
  rw [hA, hD, Nat.mul_div_mul_right _ _ hP] at h1
  rw [hA, hD, Nat.mul_mod_mul_right] at h2
  exact ⟨h1.symm, by rw [← h2, Nat.mul_div_cancel _ hP]⟩
set_option maxRecDepth 100000 in
set_option maxHeartbeats 1600000 in
theorem divide_many (a b : Option Addr) (ca cb m : Nat) (la lb : List Nat) (w : World) (hla : la.length ≤ 70368744177663) (hra : Rd w a la) (hrb : Rd w b lb) (hma : Lim la) (hmb : Lim lb) (na : Nrm la) (nb : Nrm lb) (hn : lb.length = m + 2) (hge : ¬ val la < val lb) :
    Calls Tryz.prog 50 #[.slice a la.length ca, .slice b lb.length cb] w fun e w' => ∃ vq vr, e = .returned (.tuple #[vq, vr]) ∧ NatR w.heap.size w' vq (val la / val lb) ∧ NatR w.heap.size w' vr (val la % val lb) ∧ Keep w w' := by
  have hcm := cmpL_ge hma hmb na nb hge
  have hle : lb.length ≤ la.length := len_le_of_val nb hma (by omega)
  have hc := compare_any a b ca cb la lb w (by omega) (by omega) hra hrb
  generalize cmpL la lb = z at hcm hc
  have hz : decide (z < 0) = false := by simp; omega
  rw [hn] at hc ⊢
  go_enter Tryz.func50, Tryz.ntmps50
  go_wp2_with fail
  refine hc.mono ?_
  rintro e w1 ⟨rfl, hd⟩
  obtain ⟨b1, o1, rfl, hcd1⟩ := (hrb.keep hd.keep) (m + 1) (by omega)
  obtain ⟨d1, hd1⟩ : ∃ x, lb.getD (m + 1) 0 = x := ⟨_, rfl⟩
  rw [hd1] at hcd1
  have hdl : d1 < 4294967296 := hd1 ▸ Lim_getD hmb _
  have hd0 : 0 < d1 := by
    rcases Nat.eq_zero_or_pos d1 with h | h
    · exfalso
      have h2 := val_ge nb (by intro h0; simp [h0] at hn)
      have h3 := val_take_succ lb (m + 1)
      rw [List.take_of_length_le (by omega), hd1, h, Nat.zero_mul, Nat.add_zero] at h3
      have h4 := take_bound lb hmb (m + 1)
      rw [hn, show m + 2 - 1 = m + 1 from rfl] at h2
      omega
    · exact h
  have hZ := Tryz.bits_LeadingZeros32 (d1 : Int) w1 (by omega) (by omega)
  rw [show ((d1 : Int)).toNat = d1 from rfl, bitLen_lib d1 (by omega)] at hZ
  have hbl := bitLen_le d1 hdl
  obtain ⟨s, hs⟩ : ∃ s, s + bitLen d1 = 32 := ⟨32 - bitLen d1, by omega⟩
  rw [show (32 - (bitLen d1 : Int)) = (s : Int) by omega] at hZ
  obtain ⟨hs31, hroomb, hleadb⟩ := lead_norm lb m d1 s _ hmb hn hd1 hd0 rfl hs
  have HLB : Hid (2147483648 * 4294967296 ^ (m + 1) ≤ val lb * 2 ^ s) := hleadb
  clear hs hbl hd1
  go_wp2_with fail
  refine hZ.mono ?_
  rintro e w2 ⟨rfl, rfl⟩
  have hMa := moved_any a ca s (la.length + 1) la w2 (by omega) (by omega) (by omega) (by
    have h1 := val_lt hma
    have h2 : 2 ^ s ≤ 4294967296 := Nat.le_trans (Nat.pow_le_pow_right (by omega) (show s ≤ 32 by omega)) (by decide)
    rw [Nat.pow_succ]
    exact Nat.mul_lt_mul_of_lt_of_le h1 h2 (by omega)) (hra.keep hd.keep) hma
  go_wp2_with fail
  refine hMa.mono ?_
  rintro e w3 ⟨ra, rfl, hrowA, hlA, hmA, hvA, hkA⟩
  have HG1 : Hid (w2.heap.size < w3.heap.size) := hrowA.lt
  have hMb := moved_any (some ⟨b1, o1, none⟩) cb s (m + 2) lb w3 (by omega) (by omega) (by omega) hroomb ((hrb.keep hd.keep).keep hkA) hmb
  rw [hn] at hMb
  go_wp2_with fail
  refine hMb.mono ?_
  rintro e w4 ⟨rb, rfl, hrowB, hlB, hmB, hvB, hkB⟩
  have HG2 : Hid (w3.heap.size < w4.heap.size) := hrowB.lt
  have hlead := lead_of rb m hmB hlB (by rw [hvB]; exact hleadb)
  have hrowA := hrowA.keep hkB
  obtain ⟨N, hN⟩ : ∃ N, la.length - lb.length + 1 = N := ⟨_, rfl⟩
  have hNi : (la.length : Int) - ((m : Int) + 2) + 1 = (N : Int) := by omega
  have hNb : N ≤ 70368744177664 := by omega
  have hNl : N + (m + 2) = la.length + 1 := by omega
  clear hMa hMb hZ hcd1 hc hroomb hleadb hN
  go_wp2_with (at_make; refine wpList_make32 _ rfl _ _ rfl _ _ _ _ N rfl rfl rfl rfl hNb ?_; intro w5 hrowQ hkQ hszQ)
  have hg0 : w.heap.size ≤ w2.heap.size := hd.keep.le
  have hg1 : w2.heap.size < w3.heap.size := HG1
  have hg2 : w3.heap.size < w4.heap.size := HG2
  have hk5 : Keep w w5 := ((hd.keep.trans hkA).trans hkB).trans hkQ
  have hrA5 := hrowA.keep hkQ
  have hrB5 := hrowB.keep hkQ
  have HD : Hid (val rb = val lb * 2 ^ s) := hvB
  have HA : Hid (val ra = val la * 2 ^ s) := hvA
  have H0 : Hid (val ra < 4294967296 ^ N * val rb) := by
    show _ < _
    have h1 := val_lt hma
    have h2 : 2 ^ s ≤ 2147483648 := Nat.le_trans (Nat.pow_le_pow_right (by omega) hs31) (by decide)
    have h3 : 2147483648 * 4294967296 ^ (m + 1) ≤ val rb := by rw [hvB]; exact HLB.out
    have h4 : val la * 2 ^ s < 4294967296 ^ la.length * 2147483648 := Nat.mul_lt_mul_of_lt_of_le h1 h2 (by omega)
    have h5 := Nat.mul_le_mul_left (4294967296 ^ N) h3
    have h6 : 4294967296 ^ N * (2147483648 * 4294967296 ^ (m + 1)) = 4294967296 ^ la.length * 2147483648 := by
      rw [show la.length = N + (m + 1) by omega, Nat.pow_add 4294967296 N (m + 1), Nat.mul_left_comm, Nat.mul_comm]
    rw [hvA]
    omega
  generalize w2.heap.size = g1 at *
  generalize w3.heap.size = g2 at *
  generalize w4.heap.size = g3 at *
  clear hkA hkB hkQ hvA hvB hrowA hrowB HLB HG1 HG2 hszQ hNi
  go_loopw [64] (fun i wr => ∃ (k : Nat) (rk qk : List Nat), k ≤ N ∧ i = .int .i64 k ∧ Row wr g1 rk ∧ Hid (rk.length = la.length + 1) ∧ Lim rk ∧ Row wr g2 rb ∧ Row wr g3 qk ∧ Hid (qk.length = N) ∧ Lim qk ∧ Hid (∀ j, j < N - k → qk.getD j 0 = 0) ∧ Hid (val qk * val rb + val rk = val ra) ∧ Hid (val rk < 4294967296 ^ (N - k) * val rb) ∧ Keep w wr) (fun i _ => N - (intOf i).toNat)
  case atStart => exact ⟨0, ra, _, by omega, rfl, hrA5, hlA, hmA, hrB5, hrowQ, by show _ = _; simp, by intro x hx; simp at hx; omega, by intro j _; simp [List.getD, List.getElem?_replicate]; split <;> rfl, by show _ = _; rw [val_rep]; simp, H0, hk5⟩
  case round =>
    obtain ⟨k, rk, qk, hkN, rfl, hrk, hlk, hmk, hrB, hrQ, hlq, hmq, hzq, hvk, hltk, hkp⟩ := hrel
    by_cases hkl : k < N
    · obtain ⟨p, hp⟩ : ∃ p, N - k = p + 1 := ⟨N - k - 1, by omega⟩
      rw [hp] at hzq hltk
      have hpi : (N : Int) - 1 - (k : Int) = (p : Int) := by omega
      have hrB' : Rd wr (some ⟨g2, 0, none⟩) rb := hrB.rd0
      have hoff : Off g1 (some ⟨g2, 0, none⟩) rb := by
        intro b' o' s' e _
        simp only [Option.some.injEq, Addr.mk.injEq] at e
        omega
      have hpN : p < N := by omega
      have hDL := divideLimb_any g1 p m (some ⟨g2, 0, none⟩) (m + 2) (la.length + 1 - p) rk rb wr (by have := hlk.out; omega) hrk hrB' hoff hmk hmB hlB (by omega) (by have := hlk.out; omega) hlead hltk.out
      have hsl : ∀ wx, (Instr.slice 34 (.slice (some ⟨g1, 0, none⟩) (la.length + 1) (la.length + 1)) (some (.int .i64 (p : Int))) (some (.int .i64 ((p : Int) + ((m : Int) + 2) + 1))) none).run Tryz.prog wx = .ok (.slice (some ⟨g1, p, none⟩) (m + 3) (la.length + 1 - p)) wx := by
        intro wx
        have h1 := slice32 wx g1 0 (la.length + 1) (la.length + 1) p (m + 3) (by omega) (by omega)
        rw [show ((p : Int) + ((m + 3 : Nat) : Int)) = (p : Int) + ((m : Int) + 2) + 1 by omega, Nat.zero_add] at h1
        exact h1
      clear hp
      go_wp2_with fail
      refine hDL.mono ?_
      rintro e w6 ⟨q0, r6, rfl, hq0, hr6, hl6, hm6, hv6, hlt6, hmu6⟩
      have hrB6 := hrB.mut hmu6 (by omega)
      have hrQ6 := hrQ.mut hmu6 (by omega)
      have hk6 := hkp.mut hmu6 hg0
      have hcq := hrQ6.cell p (by rw [hlq.out]; omega)
      have hfq := hrQ6.frozen p
      have H6 : Hid (val r6 + q0 * (4294967296 ^ p * val rb) = val rk) := hv6
      have H6l : Hid (val r6 < 4294967296 ^ p * val rb) := hlt6
      clear hv6 hlt6 hDL hsl hrk hrQ hrB hrB'
      go_wp2_with fail
      go_roundw
      case rel =>
        have hmS := (Mut.refl g3 w6).setCell p (.int .u32 (q0 : Nat))
        have hz0 := hzq.out p (by omega)
        have hset := val_set qk p q0 (by rw [hlq.out]; omega)
        rw [hz0, Nat.zero_mul, Nat.add_zero] at hset
        refine ⟨k + 1, r6, qk.set p q0, by omega, by go_num, hr6.mut hmS (by omega), by show _ = _; rw [hl6]; exact hlk.out, hm6, hrB6.mut hmS (by omega), hrQ6.set p q0, by show _ = _; rw [List.length_set]; exact hlq.out, Lim_set hmq _ _ hq0, ?_, ?_, ?_, hk6.setCell (p := ⟨g3, p, none⟩) (show w.heap.size ≤ g3 by omega) _⟩
        · intro j hj
          have := hzq.out j (by omega)
          simp only [List.getD] at this ⊢
          rw [List.getElem?_set_ne (by omega)]
          exact this
        · show _ = _
          have h1 := H6.out
          have h2 := hvk.out
          rw [hset, Nat.add_mul, Nat.mul_assoc]
          omega
        · show _ < _
          rw [show N - (k + 1) = p by omega]
          exact H6l.out
      case measure => simp [intOf]; omega
    · have hke : k = N := by omega
      subst hke
      rw [Nat.sub_self, Nat.pow_zero, Nat.one_mul] at hltk
      obtain ⟨hf1, hf2⟩ := div_end (val qk) (val rb) (val ra) (val rk) (val la) (val lb) (2 ^ s) (Nat.pos_of_ne_zero (by simp)) HA.out HD.out hvk.out hltk.out
      have HF1 : Hid (val qk = val la / val lb) := hf1
      have HF2 : Hid (val rk / 2 ^ s = val la % val lb) := hf2
      clear hf1 hf2
      have T1 := fun wx (h : Row wx g3 qk) => trim_any (some ⟨g3, 0, none⟩) k qk wx (by have := hlq.out; omega) (by have := hlq.out; omega) h.rd0
      have T2 := fun wx (h : Row wx g1 rk) => trim_any (some ⟨g1, 0, none⟩) (la.length + 1) rk wx (by have := hlk.out; omega) (by have := hlk.out; omega) h.rd0
      simp only [hlq.out] at T1
      simp only [hlk.out] at T2
      have e1 : (rk.take (nl rk)).length = nl rk := by have := nl_le rk; simp; omega
      have hL := fun wx (h : Row wx g1 rk) => lowered_any (some ⟨g1, 0, none⟩) (la.length + 1) s (rk.take (nl rk)) wx (by rw [e1]; have := nl_le rk; have := hlk.out; omega) (by rw [e1]; have := nl_le rk; have := hlk.out; omega) (by omega) (h.rd0.take _) (Lim_take hmk _)
      simp only [e1, val_take_nl] at hL
      go_wp2_with fail
      refine (T1 _ hrQ).mono ?_
      rintro e w6 ⟨rfl, rfl⟩
      go_wp2_with fail
      refine (T2 _ hrk).mono ?_
      rintro e w7 ⟨rfl, rfl⟩
      go_wp2_with fail
      refine (hL _ hrk).mono ?_
      rintro e w8 ⟨v8, rfl, n8, k8⟩
      go_wp2_with fail
      go_ret2
      refine ⟨_, _, rfl, ?_, by rw [← HF2.out]; exact n8.mono hkp.le, hkp.trans k8⟩
      have h3 := NatR.of_trim ((hrQ.keep k8).res (B := w.heap.size) (by omega)) hmq
      rw [hlq.out, HF1.out] at h3
      exact h3
/-- What divide does, of any divisor. -/
theorem divide_any (a b : Option Addr) (ca cb : Nat) (la lb : List Nat) (w : World) (hla : la.length ≤ 70368744177663) (hlb : lb.length ≤ 70368744177664) (hra : Rd w a la) (hrb : Rd w b lb) (hma : Lim la) (hmb : Lim lb) (na : Nrm la) (nb : Nrm lb) (hb0 : lb ≠ []) :
    Calls Tryz.prog 50 #[.slice a la.length ca, .slice b lb.length cb] w fun e w' => ∃ vq vr, e = .returned (.tuple #[vq, vr]) ∧ NatR w.heap.size w' vq (val la / val lb) ∧ NatR w.heap.size w' vr (val la % val lb) ∧ Keep w w' := by
  by_cases hlt : val la < val lb
  · exact divide_less a b ca cb la lb w (by omega) hlb hra hrb hma hmb na nb hlt
  · have h0 : 0 < lb.length := List.length_pos_iff.2 hb0
    by_cases h1 : lb.length ≤ 1
    · exact divide_K1 a b ca cb la lb w (by omega) h1 hra hrb hma hmb na nb hb0
    · obtain ⟨m, hm⟩ : ∃ m, lb.length = m + 2 := ⟨lb.length - 2, by omega⟩
      have h := divide_many a b ca cb m la lb w hla hra hrb hma hmb na nb hm hlt
      exact h
end Go.Proofs.YtinjikoocegooaaGreatDoor.Li
