import Derived.Test.YtagfkmbljkglpaaC1
set_option linter.unusedVariables false
set_option linter.unusedSimpArgs false
namespace Go.Proofs.Ytagfkmbljkglpaa
open Go.RowKit Lb Nr
set_option maxRecDepth 100000 in
set_option maxHeartbeats 400000 in
theorem Len_same (a : Option Addr) (c : Nat) (l : List Nat) (w : World) (hnc : l.length ≤ c) (hl : l.length ≤ 70368744177664) (hr : Rd w a l) (hm : Lim l) :
    Calls Try.prog 10 #[.slice a l.length c] w fun e w' => e = .returned (.int .i64 (lenB l : Nat)) ∧ w' = w := by
  have h1 := nl_le l
  have t1 := trim_any a c l w hnc (by omega) hr
  by_cases h0 : nl l = 0
  · have hb : ((nl l : Int) == 0) = true := by simp; omega
    have he : Hid (lenB l = 0) := by show _ = _; unfold lenB; rw [if_pos h0]
    clear h0
    go_enter Try.func10, Try.ntmps10
    go_wp2_with fail
    refine t1.mono ?_
    rintro e w' ⟨rfl, rfl⟩
    go_wp2
    go_ret
    exact ⟨ret_int (by rw [he.out]; rfl), rfl⟩
  · obtain ⟨m, hm'⟩ : ∃ m, nl l = m + 1 := ⟨nl l - 1, by omega⟩
    obtain ⟨x, hx⟩ : ∃ x, l.getD m 0 = x := ⟨_, rfl⟩
    have hxl : x < 4294967296 := hx ▸ Lim_getD hm _
    have he : Hid (lenB l = 32 * m + bitLen x) := by show _ = _; unfold lenB; rw [if_neg h0, hm', Nat.add_sub_cancel, hx]
    have hbl := bitLen_le x hxl
    have hb2 : (((m : Int) + 1) == 0) = false := by simp; omega
    obtain ⟨b, o, rfl, hc⟩ := hr m (by omega)
    rw [hx] at hc
    rw [hm'] at t1
    have hml : m ≤ 70368744177664 := by omega
    clear hx h0 hr hm'
    have hL := Try.bits_Len32 (x : Nat) w (by omega) (by omega)
    rw [show ((x : Int)).toNat = x from rfl, bitLen_lib x (by omega)] at hL
    go_enter Try.func10, Try.ntmps10
    go_wp2_with fail
    refine t1.mono ?_
    rintro e w' ⟨rfl, rfl⟩
    go_wp2_with (go_at_call 19; refine hL.mono ?_; rintro e w'' ⟨rfl, rfl⟩)
    go_ret
    exact ⟨ret_int (by rw [he.out]; omega), rfl⟩
theorem lenB_sz {l : List Nat} (hm : Lim l) : lenB l = sz (val l) := by
  by_cases h0 : nl l = 0
  · have e : val l = 0 := by rw [← val_take_nl l, h0]; rfl
    rw [e]
    unfold lenB
    rw [if_pos h0]
    rfl
  · have a := val_lt_len l hm
    have b := val_ge_len l h0
    have c : 0 < lenB l := by
      rcases Nat.eq_zero_or_pos (lenB l) with h | h
      · rw [h] at a b
        simp at a b
        omega
      · exact h
    obtain ⟨s, hs⟩ : ∃ s, lenB l = s + 1 := ⟨lenB l - 1, by omega⟩
    rw [hs] at a b ⊢
    exact (sz_of b a).symm
/-- A natural as a value, of whatever limbs. -/
def Lv (w : World) (v : Value) (n K : Nat) : Prop := ∃ a c l, v = .slice a l.length c ∧ l.length ≤ c ∧ l.length ≤ K ∧ Rd w a l ∧ Lim l ∧ val l = n
theorem Lv.keep {w w' : World} {v : Value} {n K : Nat} (h : Lv w v n K) (k : Keep w w') : Lv w' v n K := by
  obtain ⟨a, c, l, e, h1, h2, h3, h4⟩ := h
  exact ⟨a, c, l, e, h1, h2, h3.keep k, h4⟩
theorem Lv.lt {w : World} {v : Value} {n K : Nat} (h : Lv w v n K) : n < 4294967296 ^ K := by
  obtain ⟨a, c, l, e, h1, h2, h3, h4, h5⟩ := h
  rw [← h5]
  exact Nat.lt_of_lt_of_le (val_lt h4) (Nat.pow_le_pow_right (by omega) h2)
theorem NatR.lv {B : Nat} {w : World} {v : Value} {n K : Nat} (h : NatR B w v n) (hn : n < 4294967296 ^ K) : Lv w v n K := by
  obtain ⟨a, c, l, rfl, q1, q2, q3, q4, q5, -⟩ := h.shape
  exact ⟨a, c, l, rfl, q1, len_of q4 (by rw [q5]; exact hn), q2, q3, q5⟩
theorem Len_lv (v : Value) (n K : Nat) (w : World) (h : Lv w v n K) (hK : K ≤ 35184372088000) :
    Calls Try.prog 10 #[v] w fun e w' => e = .returned (.int .i64 (sz n : Nat)) ∧ w' = w := by
  obtain ⟨a, c, l, rfl, h1, h2, h3, h4, h5⟩ := h
  have := Len_same a c l w h1 (by omega) h3 h4
  rw [lenB_sz h4, h5] at this
  exact this
theorem pow_small (k m : Nat) (h : k ≤ 32 * m) : 2 ^ k ≤ 4294967296 ^ m := by
  rw [word_pow]
  exact Nat.pow_le_pow_right (by omega) h
set_option maxRecDepth 100000 in
set_option maxHeartbeats 400000 in
theorem scaled_lv (v1 v2 : Value) (n d K : Nat) (e : Int) (w : World) (h1 : Lv w v1 n K) (h2 : Lv w v2 d K) (hK : K ≤ 35184372088000) (he : -2000 ≤ e ∧ e ≤ 2000) :
    Calls Try.prog 21 #[v1, v2, .int .i64 e] w fun en w' => ∃ a1 a2, en = .returned (.tuple #[a1, a2]) ∧ Lv w' a1 (n * 2 ^ e.toNat) (K + 100) ∧ Lv w' a2 (d * 2 ^ (-e).toNat) (K + 100) ∧ Keep w w' := by
  have hb : ∀ x k : Nat, x < 4294967296 ^ K → k ≤ 2000 → x * 2 ^ k < 4294967296 ^ (K + 100) := by
    intro x k hx hk
    rw [Nat.pow_add]
    exact Nat.mul_lt_mul_of_lt_of_le hx (pow_small k 100 (by omega)) (Nat.pow_pos (by omega))
  have g1 := h1.lt
  have g2 := h2.lt
  replace g1 : Hid _ := g1
  replace g2 : Hid _ := g2
  replace hb : Hid _ := hb
  obtain ⟨a1, c1, l1, rfl, hc1, hk1, r1, m1, e1⟩ := h1
  obtain ⟨a2, c2, l2, rfl, hc2, hk2, r2, m2, e2⟩ := h2
  by_cases h0 : e < 0
  · obtain ⟨k, hk⟩ : ∃ k : Nat, -e = (k : Int) := ⟨(-e).toNat, by omega⟩
    have hU := Up_any a2 c2 k l2 w hc2 (by omega) (by omega) r2 m2
    rw [e2] at hU
    have f1 : e.toNat = 0 := by omega
    have f2 : (-e).toNat = k := by omega
    have hkb : k ≤ 2000 := by omega
    rw [f1, f2]
    have hk' : IntKind.i64.wrap (-e) = (k : Int) := by rw [IntWalk.i64_left, hk]; exact IntWalk.wrap64_in _ (by omega)
    clear f1 f2 e2
    go_enter Try.func21, Try.ntmps21
    go_wp2_with (go_at_call 30; refine hU.mono ?_; rintro e' w1 ⟨v, rfl, hv, k1⟩)
    go_ret2
    exact ⟨_, _, rfl, ⟨a1, c1, l1, rfl, hc1, by omega, r1.keep k1, m1, by rw [e1]; simp⟩, hv.lv (hb.out _ _ g2.out hkb), k1⟩
  · obtain ⟨k, hk⟩ := Int.eq_ofNat_of_zero_le (show 0 ≤ e by omega)
    subst hk
    have hU := Up_any a1 c1 k l1 w hc1 (by omega) (by omega) r1 m1
    rw [e1] at hU
    have f1 : ((k : Nat) : Int).toNat = k := by omega
    have f2 : (-((k : Nat) : Int)).toNat = 0 := by omega
    have hkb : k ≤ 2000 := by omega
    rw [f1, f2]
    clear f1 f2 e1
    go_enter Try.func21, Try.ntmps21
    go_wp2_with (go_at_call 30; refine hU.mono ?_; rintro e' w1 ⟨v, rfl, hv, k1⟩)
    go_ret2
    exact ⟨_, _, rfl, hv.lv (hb.out _ _ g1.out hkb), ⟨a2, c2, l2, rfl, hc2, by omega, r2.keep k1, m2, by rw [e2]; simp⟩, k1⟩
theorem DivMod_lv (v1 v2 : Value) (x y K : Nat) (w : World) (h1 : Lv w v1 x K) (h2 : Lv w v2 y K) (hK : K ≤ 35184372088000) (hy : 0 < y) :
    Calls Try.prog 22 #[v1, v2] w fun e w' => ∃ vq vr, e = .returned (.tuple #[vq, vr, .int .i64 0]) ∧ Lv w' vq (x / y) K ∧ Lv w' vr (x % y) K ∧ Keep w w' := by
  have g1 := h1.lt
  have g2 := h2.lt
  obtain ⟨a1, c1, l1, rfl, hc1, hk1, r1, m1, e1⟩ := h1
  obtain ⟨a2, c2, l2, rfl, hc2, hk2, r2, m2, e2⟩ := h2
  have := DivMod_any a1 a2 c1 c2 l1 l2 w hc1 hc2 (by omega) (by omega) r1 r2 m1 m2 (by omega)
  rw [e1, e2] at this
  refine this.mono ?_
  rintro e w' ⟨vq, vr, rfl, n1, n2, kk⟩
  exact ⟨_, _, rfl, n1.lv (Nat.lt_of_le_of_lt (Nat.div_le_self _ _) g1), n2.lv (Nat.lt_of_le_of_lt (Nat.mod_le _ _) g1), kk⟩
theorem Small_lv (v : Value) (n K : Nat) (w : World) (h : Lv w v n K) (hK : K ≤ 35184372088000) (hn : n < 18446744073709551616) :
    Calls Try.prog 23 #[v] w fun e w' => ∃ b, e = .returned (.tuple #[.int .u64 (n : Nat), .bool b]) ∧ w' = w := by
  obtain ⟨a, c, l, rfl, h1, h2, h3, h4, h5⟩ := h
  have := Small_any a c l w h1 (by omega) h3 h4
  have hs : nl l ≤ 2 := by
    have e : (l.take (nl l)).length = nl l := by rw [List.length_take]; have := nl_le l; omega
    rw [← e]
    exact len_of (Nrm_take l) (by rw [val_take_nl, h5]; exact hn)
  have hv : smallV l = n := by unfold smallV; rw [if_pos hs, h5]
  rw [hv] at this
  refine this.mono ?_
  rintro e w' ⟨rfl, rfl⟩
  exact ⟨_, rfl, rfl⟩
end Go.Proofs.Ytagfkmbljkglpaa
