import Derived.Test.YtgciimjcdhallaaDoorProg
import Derived.Test.YtgciimjcdhallaaDoorLA3
import Derived.WalkKit
import Derived.WalkSpells
import Derived.WalkLawsBesides
import Derived.Laws.CopyOwn
import Derived.Deep.Draws
import Derived.Deep.QuietTactic
import Derived.BigQuiet
import Derived.Laws.MathBits
import Derived.Shelf.Small.Bits
import Derived.Laws.BytesArg
import Derived.Lib.OthersKept
import Derived.Deep.RegionWith
import Derived.Laws.Externs
import Derived.WalkMore
import Derived.Deep.LoopGhost
import Derived.Deep.RegionHeld3
set_option linter.unusedVariables false
set_option linter.unusedSimpArgs false
namespace Go.Proofs.YtgciimjcdhallaaDoor.Li
open Go.RowKit Lb
theorem minus_nv (v1 v2 : Value) (x y k : Nat) (w : World) (h : Nv w v1 x) (g : Nv w v2 y) (hx : x < 4294967296 ^ k) (hk : k ≤ 1000) (hle : y ≤ x) :
    Calls Tryd.prog 71 #[v1, v2] w fun e w' => ∃ v, e = .returned v ∧ Nv w' v (x - y) ∧ Keep w w' := by
  obtain ⟨a, c, l, rfl, h1, h2, h3, h4, h5, h6⟩ := h.few hx
  obtain ⟨b, d, m, rfl, g1, g2, g3, g4, g5⟩ := g
  have hl : m.length ≤ l.length := len_of g4 (by
    have := val_lt h3
    rw [g5]
    omega)
  have := minus_any a b c d l m w (by omega) hl h2 g2 h3 g3 (by omega)
  rw [h5, g5] at this
  exact this
/-- A bit put into a number that has none from there down. -/
theorem or_bit {Q z : Nat} (hz : z ≤ 64) (hd : 2 ^ (z + 1) ∣ Q) : Q % 18446744073709551616 ||| (2 ^ z % 18446744073709551616) = (Q + 2 ^ z) % 18446744073709551616 := by
  rcases Nat.lt_or_ge z 64 with h | h
  · obtain ⟨m, rfl⟩ := hd
    have e : (18446744073709551616 : Nat) = 2 ^ (z + 1) * 2 ^ (63 - z) := by rw [← Nat.pow_add, show z + 1 + (63 - z) = 64 by omega]
    have h1 : 2 ^ z < 18446744073709551616 := Nat.lt_of_lt_of_le (Nat.pow_lt_pow_right (a := 2) (by omega) h) (by decide)
    have h2 : 2 ^ (z + 1) * m % 18446744073709551616 = 2 ^ (z + 1) * (m % 2 ^ (63 - z)) := by rw [e, Nat.mul_mod_mul_left]
    have hlt : 2 ^ z < 2 ^ (z + 1) := Nat.pow_lt_pow_right (by omega) (by omega)
    rw [Nat.mod_eq_of_lt h1, h2, ← Nat.two_pow_add_eq_or_of_lt hlt, Nat.add_mod, h2, Nat.mod_eq_of_lt h1]
    refine (Nat.mod_eq_of_lt ?_).symm
    have h3 : m % 2 ^ (63 - z) + 1 ≤ 2 ^ (63 - z) := Nat.mod_lt _ (Nat.two_pow_pos _)
    have h4 := Nat.mul_le_mul_left (2 ^ (z + 1)) h3
    rw [← e, Nat.mul_add, Nat.mul_one] at h4
    omega
  · have : z = 64 := by omega
    subst this
    rw [show (2 : Nat) ^ 64 = 18446744073709551616 from rfl]
    simp
theorem shr1 (z : Nat) (hz : z ≤ 64) : IntKind.u64.wrap ((2 : Int) ^ z) = ((2 ^ z % 18446744073709551616 : Nat) : Int) := by
  have e : (2 : Int) ^ z = ((2 ^ z : Nat) : Int) := (Int.natCast_pow 2 z).symm
  rw [IntKind.wrap_u64, e]
  omega
set_option maxRecDepth 100000 in
set_option maxHeartbeats 400000 in
theorem divide_nv (v1 v2 : Value) (x y k : Nat) (w : World) (h : Nv w v1 x) (g : Nv w v2 y) (hy0 : 0 < y) (hx : x < 4294967296 ^ k) (hy : y < 4294967296 ^ k) (hk : k ≤ 900) (hs : (sz x : Int) - (sz y : Int) ≤ 64) :
    Calls Tryd.prog 51 #[v1, v2] w fun e w' => ∃ v, e = .returned (.tuple #[.int .u64 ((x / y % 18446744073709551616 : Nat) : Int), v]) ∧ Nv w' v (x % y) ∧ Keep w w' := by
  have h1 := size_nv v1 x k w h hx (by omega)
  have h2 := fun wx (kx : Keep w wx) => size_nv v2 y k wx (g.keep kx) hy (by omega)
  have hU := fun (z : Nat) wx (kx : Keep w wx) => up_nv v2 y z k wx (g.keep kx) hy (by omega)
  have hbx : sz x ≤ 32 * k := sz_le (by rw [← word_pow]; exact hx)
  have hby : sz y ≤ 32 * k := sz_le (by rw [← word_pow]; exact hy)
  have HA : Hid (x < y * 2 ^ ((sz x : Int) - (sz y : Int) + 1).toNat) := by
    show _ < _
    have a := sz_lt x
    obtain ⟨b, c⟩ := sz_ge hy0
    have d : 2 ^ sz x ≤ 2 ^ (sz y - 1) * 2 ^ ((sz x : Int) - (sz y : Int) + 1).toNat := by
      rw [← Nat.pow_add]
      exact Nat.pow_le_pow_right (by omega) (by omega)
    have e := Nat.mul_le_mul_right (2 ^ ((sz x : Int) - (sz y : Int) + 1).toNat) b
    omega
  have HX : Hid (x < 4294967296 ^ k) := hx
  have HY : Hid (y < 4294967296 ^ k) := hy
  clear hx hy
  obtain ⟨n, hn⟩ : ∃ n : Int, (sz x : Int) - (sz y : Int) = n := ⟨_, rfl⟩
  have hw : wrap64 ((sz x : Int) - (sz y : Int)) = n := by rw [hn]; exact IntWalk.wrap64_in _ (by omega)
  have hnb : -100000 ≤ n ∧ n ≤ 64 := by omega
  rw [hn] at HA
  clear hs hbx hby
  go_enter Tryd.func51, Tryd.ntmps51
  go_wp2_with fail
  refine h1.mono ?_
  rintro e w1 ⟨rfl, k1⟩
  go_wp2_with fail
  refine (h2 _ k1).mono ?_
  rintro e w2 ⟨rfl, k2⟩
  have k12 := k1.trans k2
  go_wp2_with fail
  go_loopw [0, 6, 8] (fun va q i wr => ∃ (z : Int) (Q r : Nat), i = .int .i64 z ∧ -100000 ≤ z ∧ z ≤ 64 ∧ q = .int .u64 ((Q % 18446744073709551616 : Nat) : Int) ∧ Nv wr va r ∧ Hid (x = Q * y + r) ∧ Hid (r < y * 2 ^ (z + 1).toNat) ∧ Hid (2 ^ (z + 1).toNat ∣ Q) ∧ Keep w wr) (fun _ _ i _ => (intOf i + 1).toNat)
  case atStart => exact ⟨n, 0, x, rfl, hnb.1, hnb.2, rfl, h.keep k12, by show _ = _; simp, HA, Nat.dvd_zero _, k12⟩
  case round =>
    obtain ⟨z, Q, r, rfl, hz1, hz2, rfl, nv, he, hr, hd, hkp⟩ := hrel
    by_cases hz : 0 ≤ z
    · obtain ⟨m, rfl⟩ := Int.eq_ofNat_of_zero_le hz
      have em : ((m : Int) + 1).toNat = m + 1 := by omega
      rw [em] at hr hd
      have hm : m ≤ 64 := by omega
      have hrx : r ≤ x := by have := he.out; omega
      go_wp2_with fail
      refine (hU m _ hkp (by omega)).mono ?_
      rintro e w3 ⟨vt, rfl, nt, k3⟩
      have hb1 : r < 4294967296 ^ (k + 3) := Nat.lt_of_le_of_lt hrx (Nat.lt_of_lt_of_le HX.out (Nat.pow_le_pow_right (by omega) (by omega)))
      have hb2 : y * 2 ^ m < 4294967296 ^ (k + 3) := by
        rw [Nat.pow_add]
        have h5 : 2 ^ m ≤ 4294967296 ^ 3 := Nat.le_trans (Nat.pow_le_pow_right (by omega) hm) (by decide)
        exact Nat.mul_lt_mul_of_lt_of_le HY.out h5 (by decide)
      have hC := cmp_nv _ _ r (y * 2 ^ m) (k + 3) w3 (nv.keep k3) nt hb1 hb2 (by omega)
      replace hb1 : Hid _ := hb1
      replace hb2 : Hid _ := hb2
      go_wp2_with fail
      refine hC.mono ?_
      rintro e w4 ⟨rfl, k4⟩
      by_cases hc : y * 2 ^ m ≤ r
      · have hcm : decide (0 ≤ cmpN r (y * 2 ^ m)) = true := by
          unfold cmpN
          rw [if_neg (by omega)]
          split <;> rfl
        have hM := minus_nv _ _ r (y * 2 ^ m) (k + 3) w4 ((nv.keep k3).keep k4) (nt.keep k4) hb1.out (by omega) hc
        have HC : Hid (y * 2 ^ m ≤ r) := hc
        clear hc
        go_wp2_with fail
        refine hM.mono ?_
        rintro e w5 ⟨v5, rfl, n5, k5⟩
        have ho : bits BinOp.or IntKind.u64 ((Q : Int) % 18446744073709551616) (IntKind.u64.wrap (2 ^ m)) = (((Q + 2 ^ m) % 18446744073709551616 : Nat) : Int) := by
          rw [show (Q : Int) % 18446744073709551616 = ((Q % 18446744073709551616 : Nat) : Int) by omega, shr1 m hm, u64_or_nat _ _ (Nat.mod_lt _ (by decide)) (Nat.mod_lt _ (by decide)), or_bit hm hd.out]
        go_wp2_with fail
        go_roundw
        case rel =>
          have em2 : ((m : Int) - 1 + 1).toNat = m := by omega
          refine ⟨(m : Int) - 1, Q + 2 ^ m, r - y * 2 ^ m, rfl, by omega, by omega, by simp, n5, ?_, ?_, ?_, ((hkp.trans k3).trans k4).trans k5⟩
          · show _ = _
            have h6 := he.out
            have h7 := HC.out
            rw [Nat.add_mul, Nat.mul_comm (2 ^ m) y]
            omega
          · show _ < _
            have h6 := hr.out
            have h7 := HC.out
            rw [Nat.pow_succ, ← Nat.mul_assoc] at h6
            rw [em2]
            omega
          · show _ ∣ _
            rw [em2]
            exact Nat.dvd_add (Nat.dvd_trans (Nat.pow_dvd_pow 2 (by omega)) hd.out) (Nat.dvd_refl _)
        case measure => simp [intOf]
      · have hcm : decide (0 ≤ cmpN r (y * 2 ^ m)) = false := by
          unfold cmpN
          rw [if_pos (by omega)]
          rfl
        have HC : Hid (r < y * 2 ^ m) := by show _ < _; omega
        clear hc
        go_wp2_with fail
        go_roundw
        case rel =>
          have em2 : ((m : Int) - 1 + 1).toNat = m := by omega
          refine ⟨(m : Int) - 1, Q, r, rfl, by omega, by omega, rfl, (nv.keep k3).keep k4, he, ?_, ?_, (hkp.trans k3).trans k4⟩
          · show _ < _
            rw [em2]
            exact HC.out
          · show _ ∣ _
            rw [em2]
            exact Nat.dvd_trans (Nat.pow_dvd_pow 2 (by omega)) hd.out
        case measure => simp [intOf]
    · have e0 : (z + 1).toNat = 0 := by omega
      rw [e0, Nat.pow_zero, Nat.mul_one] at hr
      have hq : Hid (Q = x / y ∧ r = x % y) := by
        have h6 := he.out
        have h7 := hr.out
        refine ⟨?_, ?_⟩
        · rw [h6, Nat.add_comm, Nat.add_mul_div_right _ _ hy0, Nat.div_eq_of_lt h7, Nat.zero_add]
        · rw [h6, Nat.add_comm, Nat.add_mul_mod_self_right, Nat.mod_eq_of_lt h7]
      go_wp2_with fail
      go_ret2
      obtain ⟨hq1, hq2⟩ := hq.out
      have e1 : (Q : Int) = (x : Int) / (y : Int) := by rw [hq1]; simp
      exact ⟨u0, by simp [e1], by rw [← hq2]; exact nv, hkp⟩
end Go.Proofs.YtgciimjcdhallaaDoor.Li
