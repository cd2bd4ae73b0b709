import Derived.Test.YtinjikoocegooaaGreatDoorProg
import Derived.Test.YtinjikoocegooaaGreatDoorLC10
import Derived.Test.YtinjikoocegooaaGreatDoorShelf
import Derived.Test.YtinjikoocegooaaGreatDoorZLE3
import Derived.WalkKit
import Derived.WalkSpells
import Derived.WalkLawsBesides
import Derived.Laws.CopyOwn
import Derived.Deep.Draws
import Derived.Deep.QuietTactic
import Derived.BigQuiet
import Derived.Laws.MathBits
import Derived.Shelf.Small.Bits
import Derived.Laws.BytesArg
import Derived.Lib.OthersKept
import Derived.Deep.RegionWith
set_option linter.unusedVariables false
set_option linter.unusedSimpArgs false
namespace Go.Proofs.YtinjikoocegooaaGreatDoor.Li
open Go.RowKit Lb
theorem subw2 (x t : Nat) (hx : x < 4294967296) (ht : t < 4294967296) : ∃ z c : Nat, IntKind.u64.wrap ((x : Int) - (t : Int)) % 4294967296 = (z : Int) ∧
    bits BinOp.and IntKind.u64 (IntKind.u64.wrap ((x : Int) - (t : Int)) / 4294967296) 1 = (c : Int) ∧ z < 4294967296 ∧ c ≤ 1 ∧ z + t = x + c * 4294967296 ∧ ((IntKind.u64.wrap ((x : Int) - (t : Int)) / 4294967296 == 0) = decide (c = 0)) ∧ (c = 1 → x < t) := by
  obtain ⟨d, hd, hdl, hdv⟩ : ∃ d : Nat, IntKind.u64.wrap ((x : Int) - (t : Int)) = (d : Int) ∧ d < 18446744073709551616 ∧ (d + t = x ∨ d + t = x + 18446744073709551616) := by
    refine ⟨(IntKind.u64.wrap ((x : Int) - (t : Int))).toNat, ?_, ?_, ?_⟩ <;> (rw [IntKind.wrap_u64]; omega)
  rw [hd]
  have hb := u64_and_nat (d / 4294967296) 1 (by omega) (by omega)
  rw [Nat.and_one_is_mod] at hb
  refine ⟨d % 4294967296, d / 4294967296 % 2, by omega, by rw [← hb]; simp, by omega, by omega, by omega, ?_, by omega⟩
  by_cases h : d / 4294967296 = 0
  · have h1 : (d : Int) / 4294967296 = 0 := by omega
    rw [h1, h]; rfl
  · have h1 : (d : Int) / 4294967296 ≠ 0 := by omega
    have h2 : ¬ d / 4294967296 % 2 = 0 := by omega
    simp [h1, h2]
theorem takeStep (X R V t u x y f z c h l : Nat) (hv : V + u = R + t * X) (he : t + y * f = h * 4294967296 + l) (hz : z + l = x + c * 4294967296) (V' : Nat) (hs : V' + x * X = V + z * X) : V' + (u + y * f * X) = R + (h + c) * (X * 4294967296) := by
  have h1 : (t + y * f) * X = (h * 4294967296 + l) * X := by rw [he]
  have h2 : (z + l) * X = (x + c * 4294967296) * X := by rw [hz]
  grind
set_option maxRecDepth 100000 in
set_option maxHeartbeats 800000 in
theorem takeTimes_any (g o : Nat) (b : Option Addr) (cb c f : Nat) (r lb : List Nat) (w : World) (hrl : r.length ≤ 70368744177664) (hrow : Row w g r) (hrb : Rd w b lb) (hoff : Off g b lb) (hm : Lim r) (hmb : Lim lb) (hf : f < 4294967296)
    (hfit : o + lb.length + 1 ≤ r.length) :
    Calls Tryz.prog 102 #[.slice (some ⟨g, o, none⟩) (lb.length + 1) c, .slice b lb.length cb, .int .u32 (f : Nat)] w fun e w' => ∃ (s : Nat) (r' : List Nat), e = .returned (.bool (decide (s = 1))) ∧ s ≤ 1 ∧ Row w' g r' ∧ r'.length = r.length ∧ Lim r' ∧ r'.drop (o + lb.length + 1) = r.drop (o + lb.length + 1) ∧ val r' + 4294967296 ^ o * (f * val lb) = val r + s * 4294967296 ^ (o + lb.length + 1) ∧ Mut g w w' := by
  go_enter Tryz.func102, Tryz.ntmps102
  go_wp2_with fail
  go_loopw [7, 13] (fun c i wr => ∃ (k t : Nat) (rk : List Nat), k ≤ lb.length ∧ t < 4294967296 ∧ i = .int .i64 k ∧ c = .int .u64 t ∧ Row wr g rk ∧ Hid (rk.length = r.length) ∧ Lim rk ∧ Hid (rk.drop (o + k) = r.drop (o + k)) ∧ Hid (val rk + 4294967296 ^ o * (f * val (lb.take k)) = val r + t * 4294967296 ^ (o + k)) ∧ Mut g w wr) (fun _ i _ => lb.length - (intOf i).toNat)
  case atStart => exact ⟨0, 0, r, by omega, by omega, rfl, rfl, hrow, rfl, hm, rfl, by show _ = _; simp [val], Mut.refl _ _⟩
  case round =>
    obtain ⟨k, t, rk, hk, ht, rfl, rfl, hrk, hlen, hmk, hdr, hv, hmut⟩ := hrel
    by_cases hkl : k < lb.length
    · obtain ⟨b1, o1, rfl, hc1⟩ := (hrb.mut hmut hoff) k hkl
      have hc2 := hrk.cell (o + k) (by rw [hlen.out]; omega)
      have hfz := hrk.frozen (o + k)
      obtain ⟨x, hx⟩ : ∃ x, rk.getD (o + k) 0 = x := ⟨_, rfl⟩
      obtain ⟨y, hy⟩ : ∃ y, lb.getD k 0 = y := ⟨_, rfl⟩
      have hxl : x < 4294967296 := hx ▸ Lim_getD hmk _
      have hyl : y < 4294967296 := hy ▸ Lim_getD hmb _
      rw [hx] at hc2
      rw [hy] at hc1
      have Hx : Hid (rk.getD (o + k) 0 = x) := hx; clear hx
      have Hy : Hid (lb.getD k 0 = y) := hy; clear hy
      have hp := prodB y f hyl hf
      obtain ⟨P, hP⟩ : ∃ P, y * f = P := ⟨_, rfl⟩
      have hpi : (y : Int) * (f : Int) = (P : Int) := by rw [← Int.natCast_mul, hP]
      rw [hP] at hp
      have HP : Hid (y * f = P) := hP; clear hP
      have hand : bits BinOp.and IntKind.u64 ((t : Int) + (P : Int)) 4294967295 = (((t + P) % 4294967296 : Nat) : Int) := by have := and64 (t + P) (by omega); simpa using this
      obtain ⟨l, hl⟩ : ∃ l, (t + P) % 4294967296 = l := ⟨_, rfl⟩
      obtain ⟨h, hh⟩ : ∃ h, (t + P) / 4294967296 = h := ⟨_, rfl⟩
      have hhi : ((t : Int) + (P : Int)) / 4294967296 = (h : Int) := by omega
      rw [hl] at hand
      have hll : l < 4294967296 := by omega
      obtain ⟨z, cc, e1, e2, hz, hcc, he, -, hc0⟩ := subw2 x l hxl hll
      have hhc : h + cc < 4294967296 := by
        rcases Nat.lt_or_ge h 4294967295 with h1 | h1
        · omega
        · have : l = 0 := by omega
          have : cc = 0 := by
            rcases Nat.lt_or_ge cc 1 with h2 | h2
            · omega
            · have := hc0 (by omega); omega
          omega
      have HV : Hid (∀ V', V' + x * 4294967296 ^ (o + k) = val rk + z * 4294967296 ^ (o + k) → V' + 4294967296 ^ o * (f * val (lb.take (k + 1))) = val r + (h + cc) * 4294967296 ^ (o + k + 1)) := by
        intro V' hV'
        have h1 := takeStep _ _ _ t _ x y f z cc h l hv.out (by rw [HP.out]; omega) he V' hV'
        rw [Nat.pow_succ, ← h1, val_take_succ, Hy.out, Nat.pow_add]
        grind
      clear hl hh he hc0
      go_wp2
      go_roundw
      case rel =>
        refine ⟨k + 1, h + cc, rk.set (o + k) z, by omega, hhc, by go_num, by simp, hrk.set (o + k) z, ?_, Lim_set hmk _ _ hz, ?_, ?_, hmut.setCell _ _⟩
        · show _ = _
          rw [List.length_set]; exact hlen.out
        · show _ = _
          rw [List.drop_set_of_lt (by omega), ← Nat.add_assoc, ← List.drop_drop, hdr.out, List.drop_drop]
        · show _ = _
          have h1 := val_set rk (o + k) z (by rw [hlen.out]; omega)
          rw [Hx.out] at h1
          exact HV.out _ h1
      case measure => simp [intOf]; omega
    · have hke : k = lb.length := by omega
      subst hke
      rw [List.take_of_length_le (Nat.le_refl _)] at hv
      have hc2 := hrk.cell (o + lb.length) (by rw [hlen.out]; omega)
      have hfz := hrk.frozen (o + lb.length)
      obtain ⟨x, hx⟩ : ∃ x, rk.getD (o + lb.length) 0 = x := ⟨_, rfl⟩
      have hxl : x < 4294967296 := hx ▸ Lim_getD hmk _
      rw [hx] at hc2
      have Hx : Hid (rk.getD (o + lb.length) 0 = x) := hx; clear hx
      obtain ⟨z, cc, e1, e2, hz, hcc, he, e4, -⟩ := subw2 x t hxl ht
      have HV : Hid (∀ V', V' + x * 4294967296 ^ (o + lb.length) = val rk + z * 4294967296 ^ (o + lb.length) → V' + 4294967296 ^ o * (f * val lb) = val r + cc * 4294967296 ^ (o + lb.length + 1)) := by
        intro V' hV'
        have h1 := takeStep _ _ _ t _ x 0 0 z cc 0 t hv.out (by omega) he V' hV'
        rw [Nat.pow_succ]
        simpa using h1
      clear he e2
      go_wp2
      go_ret
      refine ⟨cc, rk.set (o + lb.length) z, ret_bool ?_, hcc, hrk.set (o + lb.length) z, by rw [List.length_set]; exact hlen.out, Lim_set hmk _ _ hz, ?_, ?_, hmut.setCell _ _⟩
      · rw [bne, e4]
        rcases Nat.lt_or_ge cc 1 with h | h
        · rw [show cc = 0 by omega]; rfl
        · rw [show cc = 1 by omega]; rfl
      · rw [List.drop_set_of_lt (by omega), ← List.drop_drop, hdr.out, List.drop_drop]
      · have h1 := val_set rk (o + lb.length) z (by rw [hlen.out]; omega)
        rw [Hx.out] at h1
        exact HV.out _ h1
end Go.Proofs.YtinjikoocegooaaGreatDoor.Li
namespace Go.Proofs.YtinjikoocegooaaGreatDoor
open Go.RowKit Lb
/-- The highest three limbs of a window and the rest, the highest two of a divisor and the rest. -/
structure Knuth (B V Y Z D d1 d0 dl x0 x1 x2 vl : Nat) : Prop where
  hD : D = (d1 * B + d0) * Z + dl
  hdl : dl < Z
  hV : V = ((x0 * B + x1) * B + x2) * (Y * Z) + vl
  hvl : vl < Y * Z
  hY : 0 < Y
  hB : 0 < B
  hd1 : 0 < d1
  hd0 : d0 < B
  hx1 : x1 < B
  hx2 : x2 < B
  hlt : V < B * (Y * D)
namespace Knuth
variable {B V Y Z D d1 d0 dl x0 x1 x2 vl : Nat}
theorem two (K : Knuth B V Y Z D d1 d0 dl x0 x1 x2 vl) (q : Nat) (h : q * (Y * D) ≤ V) : q * (d1 * B + d0) ≤ (x0 * B + x1) * B + x2 := by
  obtain ⟨hD, hdl, hV, hvl, hY, -⟩ := K
  generalize d1 * B + d0 = D2 at *
  generalize (x0 * B + x1) * B + x2 = U at *
  have h1 : q * D2 * (Y * Z) ≤ q * (Y * D) := by
    have : D2 * Z ≤ D := by omega
    have := Nat.mul_le_mul_left (q * Y) this
    calc q * D2 * (Y * Z) = q * Y * (D2 * Z) := by grind
      _ ≤ q * Y * D := this
      _ = q * (Y * D) := by grind
  have h2 : q * D2 * (Y * Z) < (U + 1) * (Y * Z) := by rw [Nat.add_mul]; omega
  have := Nat.lt_of_mul_lt_mul_right h2
  omega
theorem one (K : Knuth B V Y Z D d1 d0 dl x0 x1 x2 vl) (q : Nat) (h : q * (Y * D) ≤ V) : q * d1 ≤ x0 * B + x1 := by
  have h1 := K.two q h
  have h2 := K.hx2
  have h3 : q * (d1 * B + d0) = q * d1 * B + q * d0 := by grind
  have h4 : q * d1 * B < (x0 * B + x1 + 1) * B := by rw [Nat.add_mul]; omega
  have := Nat.lt_of_mul_lt_mul_right h4
  omega
theorem top (K : Knuth B V Y Z D d1 d0 dl x0 x1 x2 vl) : x0 ≤ d1 := by
  obtain ⟨hD, hdl, hV, hvl, hY, hB, hd1, hd0, hx1, hx2, hlt⟩ := K
  rcases Nat.lt_or_ge d1 x0 with h | h
  · exfalso
    have h1 : D + 1 ≤ (d1 + 1) * B * Z := by
      have : d1 * B + d0 + 1 ≤ (d1 + 1) * B := by rw [Nat.add_mul]; omega
      have := Nat.mul_le_mul_right Z this
      rw [Nat.add_mul] at this
      omega
    have h2 : (d1 + 1) * B * B * (Y * Z) ≤ V := by
      have : (d1 + 1) * B * B ≤ (x0 * B + x1) * B + x2 := by
        have h5 := Nat.mul_le_mul_right B (Nat.mul_le_mul_right B (show d1 + 1 ≤ x0 from h))
        have h6 : x0 * B * B ≤ (x0 * B + x1) * B := Nat.mul_le_mul_right _ (by omega)
        omega
      have := Nat.mul_le_mul_right (Y * Z) this
      omega
    have h3 : B * (Y * D) ≤ B * (Y * ((d1 + 1) * B * Z)) := Nat.mul_le_mul_left _ (Nat.mul_le_mul_left _ (by omega))
    have h4 : B * (Y * ((d1 + 1) * B * Z)) = (d1 + 1) * B * B * (Y * Z) := by grind
    omega
  · exact h
theorem near (K : Knuth B V Y Z D d1 d0 dl x0 x1 x2 vl) (g : Nat) (hg : g ≤ B) (h : g * (d1 * B + d0) ≤ (x0 * B + x1) * B + x2) : g * (Y * D) ≤ V + Y * D := by
  obtain ⟨hD, hdl, hV, hvl, hY, hB, hd1, hd0, hx1, hx2, hlt⟩ := K
  have hb : B * Z ≤ D := by
    have : B ≤ d1 * B + d0 := by have := Nat.mul_le_mul_right B (show 1 ≤ d1 from hd1); omega
    have := Nat.mul_le_mul_right Z this
    omega
  generalize d1 * B + d0 = D2 at *
  generalize (x0 * B + x1) * B + x2 = U at *
  have h1 : g * (Y * D) ≤ g * D2 * (Y * Z) + g * (Y * Z) := by
    have : D ≤ D2 * Z + Z := by omega
    have := Nat.mul_le_mul_left (g * Y) this
    calc g * (Y * D) = g * Y * D := by grind
      _ ≤ g * Y * (D2 * Z + Z) := this
      _ = g * D2 * (Y * Z) + g * (Y * Z) := by grind
  have h2 : g * D2 * (Y * Z) ≤ U * (Y * Z) := Nat.mul_le_mul_right _ h
  have h3 : g * (Y * Z) ≤ Y * D := by
    calc g * (Y * Z) ≤ B * (Y * Z) := Nat.mul_le_mul_right _ hg
      _ = Y * (B * Z) := by grind
      _ ≤ Y * D := Nat.mul_le_mul_left _ hb
  omega
theorem small (K : Knuth B V Y Z D d1 d0 dl x0 x1 x2 vl) (q : Nat) (h : q * (Y * D) ≤ V) : q < B := Nat.lt_of_mul_lt_mul_right (Nat.lt_of_le_of_lt h K.hlt)
theorem less (K : Knuth B V Y Z D d1 d0 dl x0 x1 x2 vl) (G L q : Nat) (hT : G * d1 + L = x0 * B + x1) (hb : L * B + x2 < G * d0) (h : q * (Y * D) ≤ V) : q < G := by
  have h1 := K.two q h
  have h2 : G * (d1 * B + d0) = G * d1 * B + G * d0 := by grind
  have h3 : (G * d1 + L) * B = G * d1 * B + L * B := Nat.add_mul _ _ _
  rw [← hT] at h1
  exact Nat.lt_of_mul_lt_mul_right (a := d1 * B + d0) (by omega)
theorem fits (G L : Nat) (hT : G * d1 + L = x0 * B + x1) (hb : G * d0 ≤ L * B + x2) : G * (d1 * B + d0) ≤ (x0 * B + x1) * B + x2 := by
  have h2 : G * (d1 * B + d0) = G * d1 * B + G * d0 := by grind
  have h3 : (G * d1 + L) * B = G * d1 * B + L * B := Nat.add_mul _ _ _
  rw [← hT]
  omega
theorem brk (K : Knuth B V Y Z D d1 d0 dl x0 x1 x2 vl) (G L : Nat) (hT : G * d1 + L = x0 * B + x1) (hL : B ≤ L) : G < B ∧ G * (d1 * B + d0) ≤ (x0 * B + x1) * B + x2 := by
  have h0 := Nat.mul_le_mul_right B K.top
  have h1 := K.hx1
  have h2 : G < B := Nat.lt_of_mul_lt_mul_right (a := d1) (by rw [Nat.mul_comm B]; omega)
  refine ⟨h2, fits G L hT ?_⟩
  have h3 := Nat.mul_le_mul (Nat.le_of_lt h2) (Nat.le_of_lt K.hd0)
  have h4 := Nat.mul_le_mul_right B hL
  omega
end Knuth
theorem val_split (l : List Nat) (j : Nat) (h : j ≤ l.length) : val l = val (l.take j) + 4294967296 ^ j * val (l.drop j) := by
  have := val_append (l.take j) (l.drop j)
  rw [List.take_append_drop] at this
  rw [this, List.length_take, Nat.min_eq_left h]
theorem drop_nought (l : List Nat) (j : Nat) (h : j ≤ l.length) (hv : val l < 4294967296 ^ j) : val (l.drop j) = 0 := by
  have h1 := val_split l j h
  rcases Nat.eq_zero_or_pos (val (l.drop j)) with h2 | h2
  · exact h2
  · have := Nat.le_mul_of_pos_right (4294967296 ^ j) h2
    omega
theorem take_bound (l : List Nat) (hm : Lim l) (j : Nat) : val (l.take j) < 4294967296 ^ j := by
  have h1 := val_lt (Lim_take hm j)
  have h2 : 4294967296 ^ (l.take j).length ≤ 4294967296 ^ j := Nat.pow_le_pow_right (by omega) (by simp; omega)
  omega
theorem under (r r' : List Nat) (hm : Lim r') (j : Nat) (h : j ≤ r.length) (hl : r'.length = r.length) (hd : r'.drop j = r.drop j) (hv : val r < 4294967296 ^ j) : val r' < 4294967296 ^ j := by
  rw [val_split r' j (by omega), hd, drop_nought r j h hv, Nat.mul_zero, Nat.add_zero]
  exact take_bound r' hm j
theorem back_end (X B low x t rem : Nat) (hv : low + x * X + t * X = rem + B * X) (hl : low < X) (hr : rem < X) : x + t = B ∧ low = rem := by
  have h1 : low + (x + t) * X = rem + B * X := by rw [Nat.add_mul]; omega
  have h2 : (low + (x + t) * X) / X = x + t := by rw [Nat.add_mul_div_right _ _ (by omega), Nat.div_eq_of_lt hl, Nat.zero_add]
  have h3 : (rem + B * X) / X = B := by rw [Nat.add_mul_div_right _ _ (by omega), Nat.div_eq_of_lt hr, Nat.zero_add]
  have h4 : x + t = B := by rw [← h2, h1, h3]
  rw [h4] at h1
  omega
theorem back_all (r r5 r6 : List Nat) (j x t G YD : Nat) (hm6 : Lim r6) (hj : j + 1 ≤ r.length) (hl5 : r5.length = r.length) (hl6 : r6.length = r5.length) (hx : r5.getD j 0 = x) (hd5 : r5.drop (j + 1) = r.drop (j + 1)) (hd6 : r6.drop j = r5.drop j)
    (hV : val r < 4294967296 ^ (j + 1)) (h5b : val r5 < 4294967296 ^ (j + 1)) (h5 : val r5 + (G + 1) * YD = val r + 4294967296 ^ (j + 1)) (hn : (G + 1) * YD ≤ val r + YD) (hv6 : val r6 + t * 4294967296 ^ j = val r5 + YD) (hYD : YD ≤ 4294967296 ^ j) :
    val (r6.set j ((x + t) % 4294967296)) + G * YD = val r ∧ val (r6.set j ((x + t) % 4294967296)) < YD := by
  have hx6 : r6.getD j 0 = x := by
    have h7 : (r6.drop j).getD 0 0 = (r5.drop j).getD 0 0 := by rw [hd6]
    simp only [List.getD, List.getElem?_drop, Nat.add_zero] at h7
    rw [← hx]; exact h7
  have hd : r6.drop (j + 1) = r.drop (j + 1) := by rw [← List.drop_drop, hd6, List.drop_drop, hd5]
  have s1 := val_split r6 (j + 1) (by omega)
  rw [hd, drop_nought r (j + 1) hj hV, Nat.mul_zero, Nat.add_zero, val_take_succ, hx6] at s1
  have hlow := take_bound r6 hm6 j
  rw [Nat.add_mul, Nat.one_mul] at h5 hn
  rw [Nat.pow_succ] at h5 h5b
  have hb := back_end (4294967296 ^ j) 4294967296 (val (r6.take j)) x t (val r - G * YD) (by omega) hlow (by omega)
  have hset := val_set r6 j ((x + t) % 4294967296) (by omega)
  rw [hb.1, Nat.mod_self, Nat.zero_mul, Nat.add_zero, hx6] at hset
  rw [hb.1, Nat.mod_self]
  omega
theorem knuth_of (r lb : List Nat) (o m d1 d0 x0 x1 x2 : Nat) (hm : Lim r) (hmb : Lim lb) (hn : lb.length = m + 2) (hfit : o + (m + 3) ≤ r.length) (hV : val r < 4294967296 ^ (o + 1) * val lb)
    (hx0 : r.getD (o + (m + 2)) 0 = x0) (hx1 : r.getD (o + (m + 1)) 0 = x1) (hx2 : r.getD (o + m) 0 = x2) (hd1 : lb.getD (m + 1) 0 = d1) (hd0 : lb.getD m 0 = d0) (hd : 0 < d1) :
    Knuth 4294967296 (val r) (4294967296 ^ o) (4294967296 ^ m) (val lb) d1 d0 (val (lb.take m)) x0 x1 x2 (val (r.take (o + m))) := by
  have hb := val_lt hmb
  rw [hn] at hb
  have hV2 : val r < 4294967296 ^ (o + m + 3) := by
    refine Nat.lt_of_lt_of_le hV ?_
    rw [show o + m + 3 = o + 1 + (m + 2) by omega, Nat.pow_add 4294967296 (o + 1)]
    exact Nat.mul_le_mul_left _ (Nat.le_of_lt hb)
  have s1 := val_split r (o + m + 3) (by omega)
  rw [drop_nought r _ (by omega) hV2, Nat.mul_zero, Nat.add_zero] at s1
  have t1 := val_take_succ r (o + m + 2)
  have t2 := val_take_succ r (o + m + 1)
  have t3 := val_take_succ r (o + m)
  have u1 := val_take_succ lb (m + 1)
  have u2 := val_take_succ lb m
  rw [List.take_of_length_le (by omega)] at u1
  rw [show o + (m + 2) = o + m + 2 by omega] at hx0
  rw [show o + (m + 1) = o + m + 1 by omega] at hx1
  rw [hx0, Nat.pow_succ, Nat.pow_succ] at t1
  rw [hx1, Nat.pow_succ] at t2
  rw [hx2] at t3
  rw [hd1, Nat.pow_succ] at u1
  rw [hd0] at u2
  refine ⟨?_, take_bound lb hmb m, ?_, ?_, Nat.pos_of_ne_zero (by simp), by omega, hd, hd0 ▸ Lim_getD hmb _, hx1 ▸ Lim_getD hm _, hx2 ▸ Lim_getD hm _, ?_⟩
  · rw [u1, u2]; grind
  · rw [s1, t1, t2, t3, Nat.pow_add]; grind
  · rw [← Nat.pow_add]; exact take_bound r hm _
  · rw [Nat.pow_succ] at hV
    rw [← Nat.mul_assoc, Nat.mul_comm 4294967296]; exact hV
end Go.Proofs.YtinjikoocegooaaGreatDoor
