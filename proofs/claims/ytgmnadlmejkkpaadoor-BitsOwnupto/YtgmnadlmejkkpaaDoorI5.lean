import Derived.Test.YtgmnadlmejkkpaaDoorI4
import Derived.Test.YtgmnadlmejkkpaaDoorH6
set_option linter.unusedVariables false
set_option linter.unusedSimpArgs false
namespace Go.Proofs.YtgmnadlmejkkpaaDoor
open Go.RowKit
/-- With and Less, and Put: in one form. -/
def chE (l : List Nat) (i : Int) : Int := if 0 ≤ i ∧ i < 64 * (l.length : Int) then 0 else 2
def chL (inb : Bool) (l : List Nat) (i : Int) : List Nat := if 0 ≤ i ∧ i < 64 * (l.length : Int) then l.set (i.toNat / 64) (putW inb (l.getD (i.toNat / 64) 0) (2 ^ (i.toNat % 64))) else []
theorem ch_no {w : World} {inb : Bool} {l : List Nat} {i : Int} (h : ¬ (0 ≤ i ∧ i < 64 * (l.length : Int))) : LstA w w (.returned (.tuple #[.slice none 0 0, .int .i64 2])) (chE l i) (chL inb l i) := by
  unfold chE chL
  rw [if_neg h, if_neg h]
  exact ⟨none, 0, rfl, Nat.le_refl _, Rd.nil _ _, Keep.refl _⟩
theorem With_any (a : Option Addr) (c : Nat) (l : List Nat) (i : Int) (w : World) (hl : l.length ≤ 17592186043904) (hi : i ≤ 9223372036854775807) (hr : Rd w a l) (hw : W64 l) :
    Calls Tryd.prog 28 #[.slice a l.length c, .int .i64 i] w fun e w' => LstA w w' e (chE l i) (chL true l i) := by
  by_cases h : 0 ≤ i ∧ i < 64 * (l.length : Int)
  · obtain ⟨n, rfl⟩ := Int.eq_ofNat_of_zero_le h.1
    have := With_ok a c n l w hl (by omega) hr hw
    unfold chE chL
    rw [if_pos h, if_pos h, Int.toNat_natCast]
    exact this
  · refine (With_no a c i l w hl hi h).mono ?_
    rintro e w' ⟨rfl, rfl⟩
    exact ch_no h
theorem Less_any (a : Option Addr) (c : Nat) (l : List Nat) (i : Int) (w : World) (hl : l.length ≤ 17592186043904) (hi : i ≤ 9223372036854775807) (hr : Rd w a l) (hw : W64 l) :
    Calls Tryd.prog 30 #[.slice a l.length c, .int .i64 i] w fun e w' => LstA w w' e (chE l i) (chL false l i) := by
  by_cases h : 0 ≤ i ∧ i < 64 * (l.length : Int)
  · obtain ⟨n, rfl⟩ := Int.eq_ofNat_of_zero_le h.1
    have := Less_ok a c n l w hl (by omega) hr hw
    unfold chE chL
    rw [if_pos h, if_pos h, Int.toNat_natCast]
    exact this
  · refine (Less_no a c i l w hl hi h).mono ?_
    rintro e w' ⟨rfl, rfl⟩
    exact ch_no h
theorem rPut_any (a : Option Addr) (c : Nat) (l : List Nat) (i : Int) (inb : Bool) (w : World) (hl : l.length ≤ 17592186043904) (hi : i ≤ 9223372036854775807) (hr : Rd w a l) (hw : W64 l) :
    Calls Tryd.prog 29 #[.slice a l.length c, .int .i64 i, .bool inb] w fun e w' => LstA w w' e (chE l i) (chL inb l i) := by
  by_cases h : 0 ≤ i ∧ i < 64 * (l.length : Int)
  · obtain ⟨n, rfl⟩ := Int.eq_ofNat_of_zero_le h.1
    have := rPut_ok a c n l inb w hl (by omega) hr hw
    unfold chE chL
    rw [if_pos h, if_pos h, Int.toNat_natCast]
    exact this
  · refine (rPut_no a c i l inb w hi h).mono ?_
    rintro e w' ⟨rfl, rfl⟩
    exact ch_no h
theorem chL_len (inb : Bool) (l : List Nat) (i : Int) : (chL inb l i).length ≤ l.length := by
  unfold chL; split <;> simp
theorem Select_any (a : Option Addr) (c : Nat) (l : List Nat) (k : Int) (w : World) (hl : l.length ≤ 17592186044416) (hk : k ≤ 9223372036854775807) (hr : Rd w a l) (hw : W64 l) (hT : Tab w) :
    Calls Tryd.prog 41 #[.slice a l.length c, .int .i64 k] w fun e w' => e = .returned (.int .i64 (if k < 0 then -1 else selI l k.toNat)) ∧ w' = w := by
  by_cases h : k < 0
  · rw [if_pos h]; exact Select_no a c k l w h
  · rw [if_neg h]
    obtain ⟨n, rfl⟩ := Int.eq_ofNat_of_zero_le (show 0 ≤ k by omega)
    rw [Int.toNat_natCast]
    exact Select_ok a c n l w hl (by omega) hr hw hT
theorem Highest_hi (a : Option Addr) (cap : Nat) (l : List Nat) (hl : l.length ≤ 17592186044416) (hw : W64 l) (w : World) (hI : Rd w a l) :
    Calls Tryd.prog 35 #[.slice a l.length cap] w fun e w' => e = .returned (.int .i64 (hiI l)) ∧ Keep w w' := by
  refine (Highest_any a cap l hl hw w hI).mono ?_
  rintro e w' ⟨⟨r, rfl, h⟩, k⟩
  exact ⟨by rw [hiI_eq hw h], k⟩
set_option maxRecDepth 100000 in
set_option maxHeartbeats 2000000 in
theorem law_asks (a : Option Addr) (ca : Nat) (l : List Nat) (i k : Int) (w : World) (hca : l.length ≤ ca) (hl : l.length ≤ 1048576) (hi : i ≤ 9223372036854775807) (hkb : k ≤ 9223372036854775807) (ha : Rd w a l) (hw : W64 l) (hT : Tab w) :
    Calls Tryd.prog 5 #[.slice a l.length ca, .int .i64 i, .int .i64 k] w fun e w' => e = .returned (.bool true) ∧ Keep w w' := by
  have A1 := With_any a ca l i w (by omega) hi ha hw
  have A2 := fun wx (h : Keep w wx) => rPut_any a ca l i true wx (by omega) hi (ha.keep h) hw
  have A3 := fun wx (h : Keep w wx) => Less_any a ca l i wx (by omega) hi (ha.keep h) hw
  have A4 := fun wx (h : Keep w wx) => rPut_any a ca l i false wx (by omega) hi (ha.keep h) hw
  have B1 := fun wx (h : Keep w wx) => Has_any a ca l i wx (by omega) hi (ha.keep h) hw
  have B2 := fun wx (h : Keep w wx) => rHas_any a ca l i wx (by omega) hi (ha.keep h) hw
  have B3 := fun wx (h : Keep w wx) => Lowest_any a ca l wx (by omega) (ha.keep h) hw (hT.keep h)
  have B4 := fun wx (h : Keep w wx) => rLowest_any a ca l wx hl (ha.keep h) hw
  have B5 := fun wx (h : Keep w wx) => Highest_hi a ca l (by omega) hw wx (ha.keep h)
  have B6 := fun wx (h : Keep w wx) => rHighest_any a ca l wx hl (ha.keep h) hw
  have B7 := fun wx (h : Keep w wx) => Count_any a ca l wx (by omega) (ha.keep h) hw
  have B8 := fun wx (h : Keep w wx) => rAll_any a ca l wx hl (ha.keep h) hw
  have B9 := fun wx (h : Keep w wx) => Rank_any a ca l i wx hca (by omega) hi (ha.keep h) hw
  have C1 := fun wx (h : Keep w wx) => rRank_any a ca l i wx hl (ha.keep h) hw
  have C2 := fun wx (h : Keep w wx) => Select_any a ca l k wx (by omega) hkb (ha.keep h) hw (hT.keep h)
  have C3 := fun wx (h : Keep w wx) => rSelect_any a ca l k wx hl (ha.keep h) hw
  have n1 := chL_len true l i
  have n2 := chL_len false l i
  have nA := allB_length l
  rw [← nA] at B7
  clear nA
  generalize chE l i = E at *
  generalize chL true l i = L1 at *
  generalize chL false l i = L2 at *
  generalize hasI l i = hv at *
  generalize selI l 0 = s0 at *
  generalize hiI l = h0 at *
  generalize rankI l i = rk at *
  generalize (if k < 0 then -1 else selI l k.toNat) = sk at *
  generalize allB l = z at *
  go_enter Tryd.func5, Tryd.ntmps5
  go_wp2_with fail
  refine A1.mono ?_
  rintro e w1 ⟨a1, c1, rfl, g1, r1, k1⟩
  go_wp2_with fail
  refine (A2 w1 k1).mono ?_
  rintro e w2 ⟨a2, c2, rfl, g2, r2, k2⟩
  have t2 := k1.trans k2
  go_wp2_with fail
  refine (A3 w2 t2).mono ?_
  rintro e w3 ⟨a3, c3, rfl, g3, r3, k3⟩
  have t3 := t2.trans k3
  go_wp2_with fail
  refine (A4 w3 t3).mono ?_
  rintro e w4 ⟨a4, c4, rfl, g4, r4, k4⟩
  have t4 := t3.trans k4
  have hLv := lives_any w4 (hT.keep t4)
  have S1 := fun wx (h : Keep w4 wx) => Same_any a1 a2 c1 c2 L1 wx (by omega) (r1.keep (((k2.trans k3).trans k4).trans h)) (r2.keep ((k3.trans k4).trans h))
  have S2 := fun wx (h : Keep w4 wx) => Same_any a3 a4 c3 c4 L2 wx (by omega) (r3.keep (k4.trans h)) (r4.keep h)
  clear A1 A2 A3 A4 r1 r2 r3 r4 g1 g2 g3 g4
  go_wp2_with fail
  refine hLv.mono ?_
  rintro e w5 ⟨rfl, k5⟩
  go_wp2_with fail
  refine (S1 w5 k5).mono ?_
  rintro e w6 ⟨rfl, k6⟩
  have t6 := k5.trans k6
  go_wp2_with fail
  refine (S2 w6 t6).mono ?_
  rintro e w7 ⟨rfl, k7⟩
  have t7 := t4.trans (t6.trans k7)
  clear S1 S2 hLv k5 k6 k7 t6 k1 k2 k3 k4 t2 t3
  go_wp2_with fail
  refine (B1 w7 t7).mono ?_
  rintro e w8 ⟨rfl, rfl⟩
  go_wp2_with fail
  refine (B2 w8 t7).mono ?_
  rintro e w9 ⟨rfl, rfl⟩
  go_wp2_with fail
  refine (B3 w9 t7).mono ?_
  rintro e wA ⟨rfl, rfl⟩
  go_wp2_with fail
  refine (B4 wA t7).mono ?_
  rintro e wB ⟨rfl, kB⟩
  have tB := t7.trans kB
  go_wp2_with fail
  refine (B5 wB tB).mono ?_
  rintro e wC ⟨rfl, kC⟩
  have tC := tB.trans kC
  go_wp2_with fail
  refine (B6 wC tC).mono ?_
  rintro e wD ⟨rfl, kD⟩
  have tD := tC.trans kD
  go_wp2_with fail
  refine (B7 wD tD).mono ?_
  rintro e wE ⟨rfl, rfl⟩
  go_wp2_with fail
  refine (B8 wE tD).mono ?_
  rintro e wF ⟨v, rfl, oF, kF⟩
  obtain ⟨av, cv, rfl, hcv, -⟩ := oF.shape
  have tF := tD.trans kF
  go_wp2_with fail
  refine (B9 wF tF).mono ?_
  rintro e wG ⟨rfl, kG⟩
  have tG := tF.trans kG
  go_wp2_with fail
  refine (C1 wG tG).mono ?_
  rintro e wH ⟨rfl, kH⟩
  have tH := tG.trans kH
  go_wp2_with fail
  refine (C2 wH tH).mono ?_
  rintro e wI ⟨rfl, rfl⟩
  go_wp2_with fail
  refine (C3 wI tH).mono ?_
  rintro e wJ ⟨rfl, kJ⟩
  go_wp2_with fail
  go_ret
  exact ⟨rfl, tH.trans kJ⟩
end Go.Proofs.YtgmnadlmejkkpaaDoor
