import Derived.Test.YtbpfpldahmfjaaaGreatDoorLK3
import Derived.Test.YtbpfpldahmfjaaaGreatDoorNC10
import Derived.Test.YtbpfpldahmfjaaaGreatDoorFT8
set_option linter.unusedVariables false
set_option linter.unusedSimpArgs false
namespace Go.Proofs.YtbpfpldahmfjaaaGreatDoor.Li
open Go.RowKit Lb Nr
/-- A quotient as it is answered alone. -/
def RatG (w w' : World) (e : Ending) (neg : Bool) (N D : Nat) : Prop :=
  ∃ an cn ln ad cd ld, e = .returned (.agg #[.bool (RS neg N D), .slice an (List.length ln) cn, .slice ad (List.length ld) cd]) ∧ ln.length ≤ cn ∧ ld.length ≤ cd ∧ Rd w' an ln ∧ Rd w' ad ld ∧ Lim ln ∧ Lim ld ∧ Nrm ln ∧ Nrm ld ∧ val ln = RN N D ∧ val ld = RD N D ∧ Keep w w'
set_option maxRecDepth 100000 in
set_option maxHeartbeats 800000 in
theorem Ratio_any (v : Int) (w : World) (h1 : -9223372036854775808 ≤ v) (h2 : v ≤ 9223372036854775807) :
    Calls Tryz.prog 44 #[.int .i64 v] w fun e w' => RatG w w' e (decide (v < 0)) v.natAbs 1000000 := by
  have hk : Keep w (w.alloc (Obj.cells #[Value.bool false, Value.slice none 0 0, Value.slice none 0 0] 37)) := (Keep.refl w).alloc _
  have hbox := Box.new w (Value.bool false) (Value.slice none 0 0) (Value.slice none 0 0)
  have hA := fun wx => Go.Proofs.YtbpfpldahmfjaaaGreatDoor.amount_any v ⟨h1, h2⟩ wx
  obtain ⟨m, hm⟩ : ∃ m, v.natAbs = m := ⟨_, rfl⟩
  have hF := fun wx => From_any m wx (by omega)
  have hG := fun wx => From_any 1000000 wx (by omega)
  rw [hm] at hA ⊢
  obtain ⟨ng, hng⟩ : ∃ b, decide (v < 0) = b := ⟨_, rfl⟩
  rw [hng]
  have Hm : Hid (m ≤ 9223372036854775808) := by unfold Hid; omega
  clear hm
  go_enter Tryz.func44, Tryz.ntmps44
  go_wp2_with fail
  generalize w.alloc _ = w1 at hk hbox ⊢
  refine (hA w1).mono ?_
  rintro e wq ⟨rfl, hq⟩
  rw [hq]
  clear hq wq
  go_wp2_with fail
  refine (hF _).mono ?_
  rintro e w3 ⟨v3, l3, rfl, o3, m3, p3, e3, k3⟩
  obtain ⟨a3, c3, rfl, hc3, r3⟩ := o3.shape
  have j3 : l3.length ≤ 2 := len_le_pow p3 2 (by rw [e3]; show m < 18446744073709551616; have := Hm.out; omega)
  go_wp2_with fail
  refine (hG _).mono ?_
  rintro e w4 ⟨v4, l4, rfl, o4, m4, p4, e4, k4⟩
  obtain ⟨a4, c4, rfl, hc4, r4⟩ := o4.shape
  have j4 : l4.length ≤ 2 := len_le_pow p4 2 (by rw [e4]; decide)
  go_wp2_with fail
  have kx := (hk.trans k3).trans k4
  have hb4 := (hbox.keep k3).keep k4
  refine (Over_form ng a3 a4 c3 c4 l3 l4 w4 hc3 hc4 (by omega) (by omega) (r3.keep k4) r4 m3 m4).mono ?_
  rintro e w5 hC
  rw [e3, e4] at hC
  obtain ⟨an, cn, ln, ad, cd, ld, rfl, g1, g2, r1, r2, q1, q2, n1, n2, e1, e2, k5⟩ := hC
  have hb5 := hb4.keep k5
  obtain ⟨RSv, hRS⟩ : ∃ b, RS ng m 1000000 = b := ⟨_, rfl⟩
  have hRE : RE 1000000 = 0 := rfl
  rw [hRS, hRE]
  have HRS : Hid (RS ng m 1000000 = RSv) := hRS
  clear hRS
  obtain ⟨w6, hw6, hkx, hb7⟩ : ∃ w6, w5.alloc (Obj.cells #[.bool RSv, .slice an ln.length cn, .slice ad ld.length cd] 37) = w6 ∧ Keep w5 w6 ∧ Box w6 w5.heap.size (.bool RSv) (.slice an ln.length cn) (.slice ad ld.length cd) := ⟨_, rfl, (Keep.refl w5).alloc _, Box.new w5 _ _ _⟩
  have hb6 := hb5.keep hkx
  obtain ⟨z0, z1, z2⟩ := hb6.cells
  have f0 := hb6.free 0
  have f1 := hb6.free 1
  have f2 := hb6.free 2
  obtain ⟨y0, y1, y2⟩ := hb7.cells
  have hlt : w.heap.size < w5.heap.size := (Array.getElem?_eq_some_iff.1 hb5).1
  have hne : ¬ w.heap.size = w5.heap.size := by omega
  have hne2 : ¬ w5.heap.size = w.heap.size := by omega
  have kA : Hid (Keep w w6) := (kx.trans k5).trans hkx
  go_wp2_with fail
  refine bodyPost_ret (v := .agg #[.bool RSv, .slice an ln.length cn, .slice ad ld.length cd]) (by simp [results, Tryz.results44, go_sem, World.cell?_setCell_other, World.cell?_setCell_same, z0, z1, z2]) rfl ⟨an, cn, ln, ad, cd, ld, by rw [HRS.out], g1, g2, rd_box (r1.keep hkx) hb6 (by simp) (by simp) (by simp) _ _ _, rd_box (r2.keep hkx) hb6 (by simp) (by simp) (by simp) _ _ _, q1, q2, n1, n2, e1, e2, ?_⟩
  exact ((kA.out.setCell (Nat.le_refl _) _).setCell (Nat.le_refl _) _).setCell (Nat.le_refl _) _
/-- Of a half. -/
theorem rn_half : RN 500000 1000000 = 1 ∧ RD 500000 1000000 = 2 := by decide +kernel
theorem isE_half : IsE 1 2 (-53) := by
  unfold IsE fl sA sB
  decide +kernel
set_option maxRecDepth 100000 in
set_option maxHeartbeats 800000 in
theorem Float_half (w : World) : Calls Tryz.prog 20 #[.int .i64 500000] w fun e w' => e = .returned (.float .f64 4602678819172646912) ∧ Keep w w' := by
  have hR := Ratio_any 500000 w (by omega) (by omega)
  have hd : decide ((500000 : Int) < 0) = false := by decide
  have hna : (500000 : Int).natAbs = 500000 := rfl
  rw [hd, hna] at hR
  clear hd hna
  go_enter Tryz.func20, Tryz.ntmps20
  go_wp2_with fail
  refine hR.mono ?_
  rintro e w1 ⟨an, cn, ln, ad, cd, ld, rfl, g1, g2, r1, r2, q1, q2, n1, n2, e1, e2, k1⟩
  rw [rn_half.1] at e1
  rw [rn_half.2] at e2
  have l1 : ln.length ≤ 1 := len_le_pow n1 1 (by rw [e1]; decide)
  have l2 : ld.length ≤ 1 := len_le_pow n2 1 (by rw [e2]; decide)
  have hN := pN_some (RS false 500000 1000000) (.slice an ln.length cn) (.slice ad ld.length cd) 1 2 1 w1 ⟨an, cn, ln, rfl, g1, l1, r1, q1, e1⟩ ⟨ad, cd, ld, rfl, g2, l2, r2, q2, e2⟩ (by omega) (by omega)
  go_wp2_with fail
  refine hN.mono ?_
  rintro e w2 ⟨x, rfl, -, hx, k2⟩
  have hx2 : x = 4602678819172646912 := by
    rw [hx (by omega) (-53) isE_half]
    decide +kernel
  clear hx
  go_wp2_with fail
  go_ret
  exact ⟨rfl, k1.trans k2⟩
end Go.Proofs.YtbpfpldahmfjaaaGreatDoor.Li
