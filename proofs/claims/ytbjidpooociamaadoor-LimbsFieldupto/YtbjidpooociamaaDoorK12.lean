import Derived.Test.YtbjidpooociamaaDoorK11
namespace Go.Proofs.YtbjidpooociamaaDoor
open Go.RowKit Lb
theorem RN_pos {N D : Nat} (hD : D ≠ 0) (hN : N ≠ 0) : RN N D ≠ 0 := by
  unfold RN
  rw [if_neg hD]
  have h1 := Nat.gcd_le_left D (Nat.pos_of_ne_zero hN)
  have h2 := Nat.gcd_pos_of_pos_left D (Nat.pos_of_ne_zero hN)
  have := Nat.div_pos h1 h2
  omega
def ordR (D : Nat) (n1 n2 : Bool) (L R : Nat) : Int := if D = 0 then 0 else rordV n1 n2 L R
set_option maxRecDepth 100000 in
set_option maxHeartbeats 1600000 in
theorem rOrder_form (n1 n2 : Bool) (a b c d : Option Addr) (ca cb cc cd : Nat) (la lb lc ld : List Nat) (w : World) (hA : Arg2 w a ca la b cb lb) (hB : Arg2 w c cc lc d cd ld) :
    Calls Tryd.prog 61 #[.agg #[.bool n1, .slice a la.length ca, .slice b lb.length cb], .agg #[.bool n2, .slice c lc.length cc, .slice d ld.length cd]] w fun e w' => e = .returned (.tuple #[.int .i64 (ordR (val lb * val ld) n1 n2 (val la * val ld) (val lc * val lb)), .int .i64 (RE (val lb * val ld))]) ∧ Keep w w' := by
  obtain ⟨W, hW, B1, B2, kW⟩ := lay2 w (.bool n1) (.slice a la.length ca) (.slice b lb.length cb) (.bool n2) (.slice c lc.length cc) (.slice d ld.length cd)
  have hM := rMinus_form n1 n2 a b c d ca cb cc cd la lb lc ld W (hA.keep kW) (hB.keep kW)
  obtain ⟨L, hL⟩ : ∃ L, val la * val ld = L := ⟨_, rfl⟩
  obtain ⟨R, hR⟩ : ∃ R, val lc * val lb = R := ⟨_, rfl⟩
  obtain ⟨D, hD⟩ : ∃ D, val lb * val ld = D := ⟨_, rfl⟩
  rw [hL, hR, hD] at hM ⊢
  by_cases h0 : D = 0
  · have HE : Hid (RE D = 11) := by show _ = _; simp [RE, h0]
    have HV : Hid (ordR D n1 n2 L R = 0) := by show _ = _; unfold ordR; rw [if_pos h0]
    go_enter Tryd.func61, Tryd.ntmps61
    go_wp2_with fail
    rw [← hW]
    clear hW
    refine hM.mono ?_
    rintro e w1 ⟨an, cn, ln, ad, cm, lm, rfl, u1, t1, u2, t2, u3, t3, u4, t4, u5, t5, k1⟩
    rw [HE.out]
    clear hM
    go_wp2_with fail
    go_ret2
    exact ⟨by rw [HV.out, HE.out]; rfl, (kW.trans k1).alloc _⟩
  · have HE : Hid (RE D = 0) := by show _ = _; simp [RE, h0]
    by_cases hN : PN n1 (!n2) L R = 0
    · have HV : Hid (ordR D n1 n2 L R = 0) := by show _ = _; unfold ordR; rw [if_neg h0]; unfold rordV; rw [if_pos hN]
      have HN : Hid (RN (PN n1 (!n2) L R) D = 0) := by show _ = _; simp [RN, hN]
      go_enter Tryd.func61, Tryd.ntmps61
      go_wp2_with fail
      rw [← hW]
      clear hW
      refine hM.mono ?_
      rintro e w1 ⟨an, cn, ln, ad, cm, lm, rfl, u1, t1, u2, t2, u3, t3, u4, t4, u5, t5, k1⟩
      have hln : ln.length = 0 := by
        by_cases h : ln = []
        · simp [h]
        · have := val_pos u4 h; rw [u5, HN.out] at this; omega
      rw [HE.out, hln]
      clear hM hN
      go_wp2_with fail
      go_ret2
      exact ⟨by rw [HV.out, HE.out]; rfl, (kW.trans k1).alloc _⟩
    · have HN := RN_pos h0 hN
      have HS : Hid (RS (PG n1 (!n2) L R) (PN n1 (!n2) L R) D = PG n1 (!n2) L R) := by show _ = _; simp [RS, h0, hN]
      obtain ⟨p, hp⟩ : ∃ p, PG n1 (!n2) L R = p := ⟨_, rfl⟩
      have HV : Hid (ordR D n1 n2 L R = if p then -1 else 1) := by show _ = _; unfold ordR; rw [if_neg h0]; unfold rordV; rw [if_neg hN, hp]
      rw [hp] at HS
      go_enter Tryd.func61, Tryd.ntmps61
      go_wp2_with fail
      rw [← hW]
      clear hW
      refine hM.mono ?_
      rintro e w1 ⟨an, cn, ln, ad, cm, lm, rfl, u1, t1, u2, t2, u3, t3, u4, t4, u5, t5, k1⟩
      have hln : 0 < ln.length := by
        by_cases h : ln = []
        · rw [h] at u5; rw [← u5] at HN; simp [val] at HN
        · exact List.length_pos_iff.2 h
      have hg0 : ((ln.length : Int) == 0) = false := by simp; intro h; simp [h] at hln
      rw [HE.out, hp, HS.out]
      clear hM hN HN
      cases p
      · go_wp2_with fail
        go_ret2
        exact ⟨by rw [HV.out, HE.out]; rfl, (kW.trans k1).alloc _⟩
      · go_wp2_with fail
        go_ret2
        exact ⟨by rw [HV.out, HE.out]; rfl, (kW.trans k1).alloc _⟩
end Go.Proofs.YtbjidpooociamaaDoor
