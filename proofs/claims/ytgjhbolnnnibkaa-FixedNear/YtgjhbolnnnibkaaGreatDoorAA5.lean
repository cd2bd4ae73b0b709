import Derived.Test.YtgjhbolnnnibkaaGreatDoorProg
import Derived.Test.YtgjhbolnnnibkaaGreatDoorQQ12
import Derived.Test.YtgjhbolnnnibkaaGreatDoorNC9
import Derived.Test.YtgjhbolnnnibkaaGreatDoorNB2
import Derived.WalkKit
import Derived.WalkSpells
import Derived.WalkLawsBesides
import Derived.Laws.CopyOwn
import Derived.Deep.Draws
import Derived.Deep.QuietTactic
import Derived.BigQuiet
import Derived.Laws.MathBits
import Derived.Laws.BytesArg
import Derived.Lib.OthersKept
import Derived.Deep.RegionWith
import Derived.Laws.Externs
import Derived.WalkMore
import Derived.Deep.LoopGhost
import Derived.Deep.RegionHeld3
set_option linter.unusedVariables false
set_option linter.unusedSimpArgs false
namespace Go.Proofs.YtgjhbolnnnibkaaGreatDoor.Li
open Go.RowKit Lb
theorem Size_nv (v : Value) (n k : Nat) (w : World) (h : Nv w v n) (hn : n < 4294967296 ^ k) (hk : k ≤ 1000) :
    Calls Tryz.prog 47 #[v] w fun e w' => e = .returned (.int .i64 (sz n : Nat)) ∧ Keep w w' := by
  have h := size_nv v n k w h hn (by omega)
  clear hn
  go_enter Tryz.func47, Tryz.ntmps47
  go_wp2_with fail
  refine h.mono ?_
  rintro e w' ⟨rfl, h2⟩
  go_wp2_with fail
  go_ret
  exact ⟨rfl, h2⟩
theorem Cmp_nv (v1 v2 : Value) (x y k : Nat) (w : World) (h : Nv w v1 x) (g : Nv w v2 y) (hx : x < 4294967296 ^ k) (hy : y < 4294967296 ^ k) (hk : k ≤ 1000) :
    Calls Tryz.prog 49 #[v1, v2] w fun e w' => e = .returned (.int .i64 (cmpN x y)) ∧ Keep w w' := by
  have h := cmp_nv v1 v2 x y k w h g hx hy (by omega)
  clear hx hy
  go_enter Tryz.func49, Tryz.ntmps49
  go_wp2_with fail
  refine h.mono ?_
  rintro e w' ⟨rfl, h2⟩
  go_wp2_with fail
  go_ret
  exact ⟨rfl, h2⟩
theorem Up_nv (v : Value) (x n k : Nat) (w : World) (h : Nv w v x) (hx : x < 4294967296 ^ k) (hk : k ≤ 1000) (hn : n ≤ 1048576) :
    Calls Tryz.prog 50 #[v, .int .i64 (n : Nat)] w fun e w' => ∃ v, e = .returned v ∧ Nv w' v (x * 2 ^ n) ∧ Keep w w' := by
  have h := up_nv v x n k w h hx (by omega) (by omega)
  clear hx
  go_enter Tryz.func50, Tryz.ntmps50
  go_wp2_with fail
  refine h.mono ?_
  rintro e w' ⟨v, rfl, h1, h2⟩
  go_wp2_with fail
  go_ret
  exact ⟨_, rfl, h1, h2⟩
end Go.Proofs.YtgjhbolnnnibkaaGreatDoor.Li
set_option linter.unusedVariables false
set_option linter.unusedSimpArgs false
namespace Go.Proofs.YtgjhbolnnnibkaaGreatDoor.Li
open Go.RowKit Lb Nr
theorem Divide_nv (v1 v2 : Value) (x y k : Nat) (w : World) (h : Nv w v1 x) (g : Nv w v2 y) (hy0 : 0 < y) (hx : x < 4294967296 ^ k) (hy : y < 4294967296 ^ k) (hk : k ≤ 900) (hs : (sz x : Int) - (sz y : Int) ≤ 64) :
    Calls Tryz.prog 48 #[v1, v2] w fun e w' => ∃ v, e = .returned (.tuple #[.int .u64 ((x / y % 18446744073709551616 : Nat) : Int), v]) ∧ Nv w' v (x % y) ∧ Keep w w' := by
  have h := divide_nv v1 v2 x y k w h g hy0 hx hy (by omega) hs
  clear hx hy hs
  generalize x / y % 18446744073709551616 = q at *
  go_enter Tryz.func48, Tryz.ntmps48
  go_wp2_with fail
  refine h.mono ?_
  rintro e w' ⟨v, rfl, h1, h2⟩
  go_wp2_with fail
  go_ret2
  exact ⟨_, rfl, h1, h2⟩
/-- What Rounded says. -/
def rndB (x y : Nat) : Bool := decide ((sz x : Int) - (sz y : Int) ≤ 63 ∧ x / y ≤ 9223372036854775808)
theorem q_small {x y : Nat} (hy : 0 < y) (h : (sz x : Int) - (sz y : Int) ≤ 63) : x / y < 18446744073709551616 := by
  have a := sz_lt x
  obtain ⟨b, c⟩ := sz_ge hy
  rw [Nat.div_lt_iff_lt_mul hy]
  have d : 2 ^ sz x ≤ 2 ^ 64 * 2 ^ (sz y - 1) := by
    rw [← Nat.pow_add]
    exact Nat.pow_le_pow_right (by omega) (by omega)
  have e := Nat.mul_le_mul_left (2 ^ 64) b
  have f : (2 : Nat) ^ 64 = 18446744073709551616 := rfl
  omega
set_option maxRecDepth 100000 in
set_option maxHeartbeats 400000 in
theorem Rounded_nv (v1 v2 : Value) (x y k : Nat) (w : World) (h : Nv w v1 x) (g : Nv w v2 y) (hy0 : 0 < y) (hx : x < 4294967296 ^ k) (hy : y < 4294967296 ^ k) (hk : k ≤ 900) :
    Calls Tryz.prog 23 #[v1, v2] w fun e w' => e = .returned (.tuple #[.int .u64 (if rndB x y then ((rup x y : Nat) : Int) else 0), .bool (rndB x y)]) ∧ Keep w w' := by
  obtain ⟨D, hDe⟩ : ∃ D : Int, (sz x : Int) - (sz y : Int) = D := ⟨_, rfl⟩
  have h1 := fun wx (kx : Keep w wx) => Size_nv v1 x k wx (h.keep kx) hx (by omega)
  have h2 := fun wx (kx : Keep w wx) => Size_nv v2 y k wx (g.keep kx) hy (by omega)
  have hD := fun (hs : (sz x : Int) - (sz y : Int) ≤ 64) wx (kx : Keep w wx) => Divide_nv v1 v2 x y k wx (h.keep kx) (g.keep kx) hy0 hx hy hk hs
  have hq := fun (hs : (sz x : Int) - (sz y : Int) ≤ 63) => q_small hy0 hs
  have hbx : sz x ≤ 32 * k := sz_le (by rw [← word_pow]; exact hx)
  have hby : sz y ≤ 32 * k := sz_le (by rw [← word_pow]; exact hy)
  have HY : Hid (y < 4294967296 ^ k) := hy
  have hr := Nat.mod_lt x hy0
  have HB : Hid (rndB x y = decide ((sz x : Int) - (sz y : Int) ≤ 63 ∧ x / y ≤ 9223372036854775808)) := rfl
  have HR : Hid (rup x y = if y < 2 * (x % y) ∨ 2 * (x % y) = y ∧ x / y % 2 = 1 then x / y + 1 else x / y) := rfl
  rw [hDe] at hD hq HB
  have hw : wrap64 ((sz x : Int) - (sz y : Int)) = D := by rw [hDe]; exact IntWalk.wrap64_in _ (by omega)
  clear hx hy hbx hby hDe
  generalize rndB x y = bB at *
  generalize rup x y = up at *
  by_cases c1 : 64 < D
  · have hb : bB = false := by rw [HB.out]; exact decide_eq_false (by omega)
    subst hb
    go_enter Tryz.func23, Tryz.ntmps23
    go_wp2_with fail
    refine (h1 _ (Keep.refl _)).mono ?_
    rintro e w1 ⟨rfl, k1⟩
    go_wp2_with fail
    refine (h2 _ k1).mono ?_
    rintro e w2 ⟨rfl, k2⟩
    go_wp2_with fail
    go_ret2
    exact ⟨by simp, k1.trans k2⟩
  · have hD' := hD (by omega)
    have hb2 : bB = decide (D ≤ 63 ∧ x / y ≤ 9223372036854775808) := HB.out
    have HQ : Hid (D ≤ 63 → x / y % 18446744073709551616 = x / y) := fun hh => Nat.mod_eq_of_lt (hq hh)
    obtain ⟨q, hqe⟩ : ∃ q, x / y % 18446744073709551616 = q := ⟨_, rfl⟩
    have hql : q < 18446744073709551616 := by rw [← hqe]; exact Nat.mod_lt _ (by decide)
    rw [hqe] at hD'
    clear hD hq
    by_cases c2 : D = 64
    · have hb : bB = false := by rw [hb2]; exact decide_eq_false (by omega)
      subst hb
      clear hb2 HB HR HQ hqe
      by_cases c3 : 9223372036854775808 < q
      · have e3 : decide ((9223372036854775808 : Int) < (q : Int)) = true := decide_eq_true (by omega)
        go_enter Tryz.func23, Tryz.ntmps23
        go_wp2_with fail
        refine (h1 _ (Keep.refl _)).mono ?_
        rintro e w1 ⟨rfl, k1⟩
        go_wp2_with fail
        refine (h2 _ k1).mono ?_
        rintro e w2 ⟨rfl, k2⟩
        go_wp2_with fail
        refine (hD' _ (k1.trans k2)).mono ?_
        rintro e w3 ⟨v3, rfl, n3, k3⟩
        go_wp2_with fail
        go_ret2
        exact ⟨by simp, (k1.trans k2).trans k3⟩
      · have e3 : decide ((9223372036854775808 : Int) < (q : Int)) = false := decide_eq_false (by omega)
        have e4 : (D == 64) = true := by rw [beq_iff_eq]; exact c2
        go_enter Tryz.func23, Tryz.ntmps23
        go_wp2_with fail
        refine (h1 _ (Keep.refl _)).mono ?_
        rintro e w1 ⟨rfl, k1⟩
        go_wp2_with fail
        refine (h2 _ k1).mono ?_
        rintro e w2 ⟨rfl, k2⟩
        go_wp2_with fail
        refine (hD' _ (k1.trans k2)).mono ?_
        rintro e w3 ⟨v3, rfl, n3, k3⟩
        have k13 := (k1.trans k2).trans k3
        go_wp2_with fail
        refine (h1 _ k13).mono ?_
        rintro e w4 ⟨rfl, k4⟩
        go_wp2_with fail
        refine (h2 _ (k13.trans k4)).mono ?_
        rintro e w5 ⟨rfl, k5⟩
        go_wp2_with fail
        go_ret2
        exact ⟨by simp, (k13.trans k4).trans k5⟩
    · have hqq : x / y = q := by rw [← hqe]; exact (HQ.out (by omega)).symm
      rw [hqq] at hb2 HR
      clear HQ hqe HB hqq
      by_cases c3 : 9223372036854775808 < q
      · have e3 : decide ((9223372036854775808 : Int) < (q : Int)) = true := decide_eq_true (by omega)
        have hb : bB = false := by rw [hb2]; exact decide_eq_false (by omega)
        subst hb
        clear hb2 HR
        go_enter Tryz.func23, Tryz.ntmps23
        go_wp2_with fail
        refine (h1 _ (Keep.refl _)).mono ?_
        rintro e w1 ⟨rfl, k1⟩
        go_wp2_with fail
        refine (h2 _ k1).mono ?_
        rintro e w2 ⟨rfl, k2⟩
        go_wp2_with fail
        refine (hD' _ (k1.trans k2)).mono ?_
        rintro e w3 ⟨v3, rfl, n3, k3⟩
        go_wp2_with fail
        go_ret2
        exact ⟨by simp, (k1.trans k2).trans k3⟩
      · have e3 : decide ((9223372036854775808 : Int) < (q : Int)) = false := decide_eq_false (by omega)
        have e4 : (D == 64) = false := by rw [beq_eq_false_iff_ne]; omega
        have hb : bB = true := by rw [hb2]; exact decide_eq_true (by omega)
        subst hb
        clear hb2
        obtain ⟨r, hre⟩ : ∃ r, x % y = r := ⟨_, rfl⟩
        rw [hre] at hD' hr HR
        have hcs : (cmpN (r * 2 ^ 1) y = 1 ∧ up = q + 1) ∨ (cmpN (r * 2 ^ 1) y = 0 ∧ q % 2 = 1 ∧ up = q + 1) ∨ (cmpN (r * 2 ^ 1) y = 0 ∧ q % 2 = 0 ∧ up = q) ∨ (cmpN (r * 2 ^ 1) y = -1 ∧ up = q) := by
          have h9 := HR.out
          unfold cmpN
          rw [Nat.pow_one]
          rcases Nat.lt_trichotomy (r * 2) y with g1 | g1 | g1
          · rw [if_pos g1]
            rw [if_neg (by omega)] at h9
            exact .inr (.inr (.inr ⟨rfl, h9⟩))
          · rw [if_neg (by omega), if_neg (by omega)]
            rcases Nat.mod_two_eq_zero_or_one q with g2 | g2
            · rw [if_neg (by omega)] at h9
              exact .inr (.inr (.inl ⟨rfl, g2, h9⟩))
            · rw [if_pos (by omega)] at h9
              exact .inr (.inl ⟨rfl, g2, h9⟩)
          · rw [if_neg (by omega), if_pos g1]
            rw [if_pos (by omega)] at h9
            exact .inl ⟨rfl, h9⟩
        clear HR hre
        have hC := fun (v : Value) wx (kx : Keep w wx) (nx : Nv wx v (r * 2 ^ 1)) => Cmp_nv v v2 (r * 2 ^ 1) y (k + 1) wx nx (g.keep kx) (by
          have := HY.out
          rw [Nat.pow_succ]
          omega) (Nat.lt_of_lt_of_le HY.out (Nat.pow_le_pow_right (by omega) (by omega))) (by omega)
        have hUp := fun (v : Value) wx (nx : Nv wx v r) => Up_nv v r 1 k wx nx (Nat.lt_trans hr HY.out) (by omega) (by omega)
        have hq63 : q ≤ 9223372036854775808 := by omega
        generalize cmpN (r * 2 ^ 1) y = C at *
        rcases hcs with ⟨rfl, rfl⟩ | ⟨rfl, g2, rfl⟩ | ⟨rfl, g2, rfl⟩ | ⟨rfl, rfl⟩
        all_goals
          go_enter Tryz.func23, Tryz.ntmps23
          go_wp2_with fail
          refine (h1 _ (Keep.refl _)).mono ?_
          rintro e w1 ⟨rfl, k1⟩
          go_wp2_with fail
          refine (h2 _ k1).mono ?_
          rintro e w2 ⟨rfl, k2⟩
          go_wp2_with fail
          refine (hD' _ (k1.trans k2)).mono ?_
          rintro e w3 ⟨v3, rfl, n3, k3⟩
          have k13 := (k1.trans k2).trans k3
          go_wp2_with fail
          refine (h1 _ k13).mono ?_
          rintro e w4 ⟨rfl, k4⟩
          go_wp2_with fail
          refine (h2 _ (k13.trans k4)).mono ?_
          rintro e w5 ⟨rfl, k5⟩
          have k15 := (k13.trans k4).trans k5
          go_wp2_with fail
          refine (hUp v3 _ ((n3.keep k4).keep k5)).mono ?_
          rintro e w6 ⟨v6, rfl, n6, k6⟩
          go_wp2_with fail
          refine (hC v6 _ (k15.trans k6) n6).mono ?_
          rintro e w7 ⟨rfl, k7⟩
          go_wp2_with fail
          go_ret2
          exact ⟨by simp, (k15.trans k6).trans k7⟩
end Go.Proofs.YtgjhbolnnnibkaaGreatDoor.Li
