import Derived.Test.YtgjhbolnnnibkaaGreatDoorE5
import Derived.Test.YtgjhbolnnnibkaaGreatDoorLK1
import Derived.Test.YtgjhbolnnnibkaaGreatDoorNC10
import Derived.Test.YtgjhbolnnnibkaaGreatDoorNC9
import Derived.Test.YtgjhbolnnnibkaaGreatDoorFT8
import Derived.Test.YtgjhbolnnnibkaaGreatDoorLC6
set_option linter.unusedVariables false
set_option linter.unusedSimpArgs false
namespace Go.Proofs.YtgjhbolnnnibkaaGreatDoor.Li
open Go.RowKit Lb Nr
/-- Limbs do not lie in a quotient's variable. -/
theorem rd_box {w : World} {a : Option Addr} {l : List Nat} {g : Nat} {p q r : Value} (h : Rd w a l) (hb : Box w g p q r) (hp : ∀ x, p ≠ .int .u32 x) (hq : ∀ x, q ≠ .int .u32 x) (hr : ∀ x, r ≠ .int .u32 x) (x y z : Value) : Rd (((w.setCell ⟨g, 0, none⟩ x).setCell ⟨g, 1, none⟩ y).setCell ⟨g, 2, none⟩ z) a l := by
  have ho : Off g a l := by
    intro b o s e hne
    rintro rfl
    obtain ⟨b', o', e', hc⟩ := h 0 (List.length_pos_iff.2 hne)
    rw [e'] at e
    simp only [Option.some.injEq, Addr.mk.injEq] at e
    obtain ⟨rfl, rfl, -⟩ := e
    have h1 := cell_of_row w b' (o' + 0) _ 34 (0, 0) hb
    rw [hc] at h1
    match o', h1 with
    | 0, h1 => simp at h1; exact hp _ h1.symm
    | 1, h1 => simp at h1; exact hq _ h1.symm
    | 2, h1 => simp at h1; exact hr _ h1.symm
    | n + 3, h1 => simp at h1
  exact h.mut ((((Mut.refl g w).setCell 0 x).setCell 1 y).setCell 2 z) ho
/-- A quotient as it is answered alone. -/
def RatG (w w' : World) (e : Ending) (neg : Bool) (N D : Nat) : Prop :=
  ∃ an cn ln ad cd ld, e = .returned (.agg #[.bool (RS neg N D), .slice an (List.length ln) cn, .slice ad (List.length ld) cd]) ∧ ln.length ≤ cn ∧ ld.length ≤ cd ∧ Rd w' an ln ∧ Rd w' ad ld ∧ Lim ln ∧ Lim ld ∧ Nrm ln ∧ Nrm ld ∧ val ln = RN N D ∧ val ld = RD N D ∧ Keep w w'
set_option maxRecDepth 100000 in
set_option maxHeartbeats 800000 in
theorem Ratio_any (v : Int) (w : World) (h1 : -9223372036854775808 ≤ v) (h2 : v ≤ 9223372036854775807) :
    Calls Tryz.prog 12 #[.int .i64 v] w fun e w' => RatG w w' e (decide (v < 0)) v.natAbs 1000000 := by
  have hk : Keep w (w.alloc (Obj.cells #[Value.bool false, Value.slice none 0 0, Value.slice none 0 0] 34)) := (Keep.refl w).alloc _
  have hbox := Box.new w (Value.bool false) (Value.slice none 0 0) (Value.slice none 0 0)
  have hA := fun wx => Go.Proofs.YtgjhbolnnnibkaaGreatDoor.amount_any v ⟨h1, h2⟩ wx
  obtain ⟨m, hm⟩ : ∃ m, v.natAbs = m := ⟨_, rfl⟩
  have hF := fun wx => From_any m wx (by omega)
  have hG := fun wx => From_any 1000000 wx (by omega)
  rw [hm] at hA ⊢
  obtain ⟨ng, hng⟩ : ∃ b, decide (v < 0) = b := ⟨_, rfl⟩
  rw [hng]
  have Hm : Hid (m ≤ 9223372036854775808) := by unfold Hid; omega
  clear hm
  go_enter Tryz.func12, Tryz.ntmps12
  go_wp2_with fail
  generalize w.alloc _ = w1 at hk hbox ⊢
  refine (hA w1).mono ?_
  rintro e wq ⟨rfl, hq⟩
  rw [hq]
  clear hq wq
  go_wp2_with fail
  refine (hF _).mono ?_
  rintro e w3 ⟨v3, l3, rfl, o3, m3, p3, e3, k3⟩
  obtain ⟨a3, c3, rfl, hc3, r3⟩ := o3.shape
  have j3 : l3.length ≤ 2 := len_le_pow p3 2 (by rw [e3]; show m < 18446744073709551616; have := Hm.out; omega)
  go_wp2_with fail
  refine (hG _).mono ?_
  rintro e w4 ⟨v4, l4, rfl, o4, m4, p4, e4, k4⟩
  obtain ⟨a4, c4, rfl, hc4, r4⟩ := o4.shape
  have j4 : l4.length ≤ 2 := len_le_pow p4 2 (by rw [e4]; decide)
  go_wp2_with fail
  have kx := (hk.trans k3).trans k4
  have hb4 := (hbox.keep k3).keep k4
  refine (Over_form ng a3 a4 c3 c4 l3 l4 w4 hc3 hc4 (by omega) (by omega) (r3.keep k4) r4 m3 m4).mono ?_
  rintro e w5 hC
  rw [e3, e4] at hC
  obtain ⟨an, cn, ln, ad, cd, ld, rfl, g1, g2, r1, r2, q1, q2, n1, n2, e1, e2, k5⟩ := hC
  have hb5 := hb4.keep k5
  obtain ⟨RSv, hRS⟩ : ∃ b, RS ng m 1000000 = b := ⟨_, rfl⟩
  have hRE : RE 1000000 = 0 := rfl
  rw [hRS, hRE]
  have HRS : Hid (RS ng m 1000000 = RSv) := hRS
  clear hRS
  obtain ⟨w6, hw6, hkx, hb7⟩ : ∃ w6, w5.alloc (Obj.cells #[.bool RSv, .slice an ln.length cn, .slice ad ld.length cd] 34) = w6 ∧ Keep w5 w6 ∧ Box w6 w5.heap.size (.bool RSv) (.slice an ln.length cn) (.slice ad ld.length cd) := ⟨_, rfl, (Keep.refl w5).alloc _, Box.new w5 _ _ _⟩
  have hb6 := hb5.keep hkx
  obtain ⟨z0, z1, z2⟩ := hb6.cells
  have f0 := hb6.free 0
  have f1 := hb6.free 1
  have f2 := hb6.free 2
  obtain ⟨y0, y1, y2⟩ := hb7.cells
  have hlt : w.heap.size < w5.heap.size := (Array.getElem?_eq_some_iff.1 hb5).1
  have hne : ¬ w.heap.size = w5.heap.size := by omega
  have hne2 : ¬ w5.heap.size = w.heap.size := by omega
  have kA : Hid (Keep w w6) := (kx.trans k5).trans hkx
  go_wp2_with fail
  refine bodyPost_ret (v := .agg #[.bool RSv, .slice an ln.length cn, .slice ad ld.length cd]) (by simp [results, Tryz.results12, go_sem, World.cell?_setCell_other, World.cell?_setCell_same, z0, z1, z2]) rfl ⟨an, cn, ln, ad, cd, ld, by rw [HRS.out], g1, g2, rd_box (r1.keep hkx) hb6 (by simp) (by simp) (by simp) _ _ _, rd_box (r2.keep hkx) hb6 (by simp) (by simp) (by simp) _ _ _, q1, q2, n1, n2, e1, e2, ?_⟩
  exact ((kA.out.setCell (Nat.le_refl _) _).setCell (Nat.le_refl _) _).setCell (Nat.le_refl _) _
end Go.Proofs.YtgjhbolnnnibkaaGreatDoor.Li
set_option linter.unusedVariables false
set_option linter.unusedSimpArgs false
namespace Go.Proofs.YtgjhbolnnnibkaaGreatDoor.Li
open Go.RowKit Lb Nr
theorem wb_rb {M : Nat} {E : Int} (hM : M ≤ 9007199254740992) (hE : -1074 ≤ E) (hs : M < 4503599627370496 → E = -1074) : wb M E = rb M E := by
  unfold wb rb rM rE
  by_cases h1 : M = 9007199254740992
  · simp only [if_pos h1]
    subst h1
    rw [if_pos (by omega)]
    by_cases h2 : 971 < E + 1
    · rw [if_pos h2]
      omega
    · rw [if_neg h2, if_pos (by omega)]
      omega
  · simp only [if_neg h1]
    by_cases h3 : 4503599627370496 ≤ M
    · rw [if_pos h3]
      by_cases h2 : 971 < E
      · rw [if_pos h2]
        omega
      · rw [if_neg h2, if_pos h3]
        omega
    · rw [if_neg h3]
      have := hs (by omega)
      rw [if_neg (by omega), if_neg h3]
      omega
set_option maxHeartbeats 400000 in
theorem ramount_any (v : Int) (h1 : -9223372036854775808 ≤ v) (h2 : v ≤ 9223372036854775807) (w : World) : Calls Tryz.prog 29 #[.int .i64 v] w fun e w' => e = .returned (.int .u64 (v.natAbs : Nat)) ∧ w' = w := by
  by_cases h : v < 0
  · have h1 := Go.Proofs.YtgjhbolnnnibkaaGreatDoor.amount_neg v h h1
    go_enter Tryz.func29, Tryz.ntmps29
    go_wp2_with fail
    go_ret
    exact ⟨rfl, rfl⟩
  · have h1 : IntKind.u64.wrap v = (v.natAbs : Int) := by rw [IntKind.wrap_u64]; omega
    go_enter Tryz.func29, Tryz.ntmps29
    go_wp2_with fail
    go_ret
    exact ⟨rfl, rfl⟩
theorem sA_scale (g N : Nat) (e : Int) : sA (g * N) e = g * sA N e := by unfold sA; rw [Nat.mul_assoc]
theorem sB_scale (g N : Nat) (e : Int) : sB (g * N) e = g * sB N e := by unfold sB; rw [Nat.mul_assoc]
theorem isE_scale {g N D : Nat} (hg : 0 < g) (e : Int) : IsE (g * N) (g * D) e ↔ IsE N D e := by
  unfold IsE fl
  simp only [sA_scale, sB_scale, Nat.mul_div_mul_left _ _ hg]
theorem rup_scale {g N D : Nat} (hg : 0 < g) (hD : 0 < D) (e : Int) : Nr.rup (sA (g * N) e) (sB (g * D) e) = Nr.rup (sA N e) (sB D e) := by
  apply Nr.rup_ratio (sB_pos (Nat.mul_pos hg hD) e) (sB_pos hD e)
  rw [sA_scale, sB_scale, Nat.mul_assoc, Nat.mul_left_comm]
theorem low_split (N D : Nat) (hD : 0 < D) : ∃ g, 0 < g ∧ N = g * RN N D ∧ D = g * RD N D ∧ 0 < RD N D := by
  unfold RN RD
  rw [if_neg (by omega), if_neg (by omega)]
  refine ⟨Nat.gcd N D, Nat.gcd_pos_of_pos_right N hD, (Nat.mul_div_cancel' (Nat.gcd_dvd_left N D)).symm, (Nat.mul_div_cancel' (Nat.gcd_dvd_right N D)).symm, ?_⟩
  exact Nat.div_pos (Nat.le_of_dvd hD (Nat.gcd_dvd_right N D)) (Nat.gcd_pos_of_pos_right N hD)
/-- The bits of a fixed number, without a sign. -/
def FlB (m x : Nat) : Prop := (m = 0 → x = 0) ∧ (0 < m → ∀ E, IsE m 1000000 E → x = wb (Nr.rup (sA m E) (sB 1000000 E)) E)
set_option maxRecDepth 100000 in
set_option maxHeartbeats 800000 in
/-- The program's Float. -/
theorem Float_any (v : Int) (w : World) (h1 : -9223372036854775808 ≤ v) (h2 : v ≤ 9223372036854775807) :
    Calls Tryz.prog 10 #[.int .i64 v] w fun e w' => ∃ x : Nat, e = .returned (.float .f64 x) ∧ (v = 0 → x = 0) ∧ (v ≠ 0 → ∀ E, IsE v.natAbs 1000000 E → x = wb (Nr.rup (sA v.natAbs E) (sB 1000000 E)) E + sg (decide (v < 0))) ∧ Keep w w' := by
  have hR := Ratio_any v w h1 h2
  go_enter Tryz.func10, Tryz.ntmps10
  go_wp2_with fail
  refine hR.mono ?_
  rintro e w1 ⟨an, cn, ln, ad, cd, ld, rfl, g1, g2, r1, r2, q1, q2, n1, n2, e1, e2, k1⟩
  obtain ⟨g, hg, s1, s2, s3⟩ := low_split v.natAbs 1000000 (by omega)
  have t1 : RN v.natAbs 1000000 ≤ v.natAbs := by unfold RN; rw [if_neg (by omega)]; exact Nat.div_le_self _ _
  have t2 : RD v.natAbs 1000000 ≤ 1000000 := by unfold RD; rw [if_neg (by omega)]; exact Nat.div_le_self _ _
  have l1 : ln.length ≤ 2 := len_le_pow n1 2 (by rw [e1]; show _ < 18446744073709551616; omega)
  have l2 : ld.length ≤ 2 := len_le_pow n2 2 (by rw [e2]; show _ < 18446744073709551616; omega)
  have hN := pN_some (RS (decide (v < 0)) v.natAbs 1000000) (.slice an ln.length cn) (.slice ad ld.length cd) (RN v.natAbs 1000000) (RD v.natAbs 1000000) 2 w1 ⟨an, cn, ln, rfl, g1, l1, r1, q1, e1⟩ ⟨ad, cd, ld, rfl, g2, l2, r2, q2, e2⟩ (by omega) s3
  have hfin : Hid (∀ x : Nat, (RN v.natAbs 1000000 = 0 → x = 0) → (0 < RN v.natAbs 1000000 → ∀ E, IsE (RN v.natAbs 1000000) (RD v.natAbs 1000000) E → x = wb (Nr.rup (sA (RN v.natAbs 1000000) E) (sB (RD v.natAbs 1000000) E)) E + sg (RS (decide (v < 0)) v.natAbs 1000000)) → (v = 0 → x = 0) ∧ (v ≠ 0 → ∀ E, IsE v.natAbs 1000000 E → x = wb (Nr.rup (sA v.natAbs E) (sB 1000000 E)) E + sg (decide (v < 0)))) := by
    intro x a b
    refine ⟨fun z => a ?_, fun z E hE => ?_⟩
    · subst z; decide
    · have hp : 0 < RN v.natAbs 1000000 := by
        rcases Nat.eq_zero_or_pos (RN v.natAbs 1000000) with c | c
        · rw [c] at s1; omega
        · exact c
      have hrs : RS (decide (v < 0)) v.natAbs 1000000 = decide (v < 0) := by unfold RS; rw [if_neg (by omega)]
      have hE' : IsE (RN v.natAbs 1000000) (RD v.natAbs 1000000) E := by
        have := isE_scale (N := RN v.natAbs 1000000) (D := RD v.natAbs 1000000) hg E
        rw [← s1, ← s2] at this
        exact this.1 hE
      have hr := rup_scale (N := RN v.natAbs 1000000) (D := RD v.natAbs 1000000) hg s3 E
      rw [← s1, ← s2] at hr
      rw [b hp E hE', hrs, hr]
  generalize RS (decide (v < 0)) v.natAbs 1000000 = ng at *
  generalize RN v.natAbs 1000000 = X at *
  generalize RD v.natAbs 1000000 = Y at *
  clear s1 s2 t1 t2 hR e1 e2
  go_wp2_with fail
  refine hN.mono ?_
  rintro e w2 ⟨x, rfl, x1, x2, k2⟩
  obtain ⟨y1, y2⟩ := hfin.out x x1 x2
  replace y1 : Hid _ := y1
  replace y2 : Hid _ := y2
  clear x1 x2 hfin
  go_wp2_with fail
  go_ret
  exact ⟨x, rfl, y1.out, y2.out, k1.trans k2⟩
set_option maxRecDepth 100000 in
set_option maxHeartbeats 800000 in
/-- The reference's Float. -/
theorem rFloat_any (v : Int) (w : World) (h1 : -9223372036854775808 ≤ v) (h2 : v ≤ 9223372036854775807) :
    Calls Tryz.prog 11 #[.int .i64 v] w fun e w' => ∃ x : Nat, e = .returned (.int .u64 (x : Nat)) ∧ (v = 0 → x = 0) ∧ (v ≠ 0 → ∀ E, IsE v.natAbs 1000000 E → x = wb (Nr.rup (sA v.natAbs E) (sB 1000000 E)) E + sg (decide (v < 0))) ∧ Keep w w' := by
  have hA := fun wx => ramount_any v h1 h2 wx
  have hW := fun wx => Wide_any wx
  obtain ⟨m, hm⟩ : ∃ m, v.natAbs = m := ⟨_, rfl⟩
  have hF := fun wx => From_nv m wx (by omega)
  have hG := fun wx => From_nv 1000000 wx (by omega)
  rw [hm] at hA ⊢
  obtain ⟨x, inf, M', E', ng', hx, y1, y2, hM', hE', hN⟩ : ∃ (x : Nat) (inf : Bool) (M' : Nat) (E' : Int) (ng' : Bool), x = nb inf M' E' + sg ng' ∧ (v = 0 → x = 0) ∧ (v ≠ 0 → ∀ E, IsE m 1000000 E → x = wb (Nr.rup (sA m E) (sB 1000000 E)) E + sg (decide (v < 0))) ∧ M' < 9007199254740992 ∧ (-1074 ≤ E' ∧ E' ≤ 971) ∧
      ∀ v1 v2 wx, Nv wx v1 m → Nv wx v2 1000000 → Calls Tryz.prog 28 #[.bool (decide (v < 0)), v1, v2, wideV] wx fun e w' => e = .returned (.tuple #[numV ng' inf M' E', .bool true]) ∧ Keep wx w' := by
    rcases Nat.eq_zero_or_pos m with z | z
    · refine ⟨0, false, 0, 0, false, rfl, fun _ => rfl, fun c => by omega, by omega, by omega, ?_⟩
      rintro v1 v2 wx n1 n2
      obtain ⟨a, c, l, rfl, p1, p2, p3, p4, p5, p6⟩ := n1.few (k := 2) (by rw [z]; decide)
      obtain ⟨b, d, m', rfl, q1, q2, q3, q4, q5, q6⟩ := n2.few (k := 2) (by decide)
      have := rN_zero (decide (v < 0)) a b c d l m' wx p1 q1 (by omega) (by omega) p2 q2 (.inr (by rw [p5]; exact z))
      rw [show decide (val m' ≠ 0) = true by rw [q5]; rfl] at this
      exact this
    · obtain ⟨E, hE⟩ := exE z (show 0 < 1000000 by omega)
      obtain ⟨s1, s2⟩ := small_E (show 0 < 1000000 by omega) hE
      obtain ⟨inf, M', E', hform, hnb, q1, q2, q3⟩ := nearV_form (Nr.rup (sA m E) (sB 1000000 E)) E s1 hE.1
      refine ⟨wb (Nr.rup (sA m E) (sB 1000000 E)) E + sg (decide (v < 0)), inf, M', E', decide (v < 0), ?_, fun c => by omega, ?_, q1, ⟨q2, q3⟩, ?_⟩
      · rw [hnb, wb_rb s1 hE.1 s2]
      · intro _ E2 hE2
        rw [isE_one (show 0 < 1000000 by omega) hE2 hE]
      · rintro v1 v2 wx n1 n2
        obtain ⟨a, c, l, rfl, p1, p2, p3, p4, p5, p6⟩ := n1.few (k := 2) (by show m < 18446744073709551616; omega)
        obtain ⟨b, d, m', rfl, t1, t2, t3, t4, t5, t6⟩ := n2.few (k := 2) (by decide)
        refine (rN_some (decide (v < 0)) a b c d l m' wx p1 t1 (by omega) (by omega) p2 t2 p3 t3 (by omega) (by omega)).mono ?_
        rintro e w' ⟨E2, hE2, rfl, k⟩
        rw [p5, t5] at hE2
        rw [p5, t5, isE_one (show 0 < 1000000 by omega) hE2 hE, hform]
        exact ⟨rfl, k⟩
  have hB := fun wx => Bits_any ng' inf M' E' hM' hE' wx
  rw [← hx] at hB
  unfold wideV numV at *
  replace y1 : Hid _ := y1
  replace y2 : Hid _ := y2
  obtain ⟨ng, hng⟩ : ∃ b, decide (v < 0) = b := ⟨_, rfl⟩
  rw [hng] at hN
  replace hng : Hid _ := hng
  clear hx hM' hE' hm
  go_enter Tryz.func11, Tryz.ntmps11
  go_wp2_with fail
  refine (hA _).mono ?_
  rintro e wz ⟨rfl, hz⟩
  subst hz
  go_wp2_with fail
  refine (hF _).mono ?_
  rintro e w1 ⟨v1, rfl, n1, k1⟩
  go_wp2_with fail
  refine (hG _).mono ?_
  rintro e w2 ⟨v2, rfl, n2, k2⟩
  go_wp2_with fail
  refine (hW _).mono ?_
  rintro e w3 ⟨rfl, k3⟩
  go_wp2_with fail
  rw [hng.out]
  refine (hN v1 v2 _ ((n1.keep k2).keep k3) (n2.keep k3)).mono ?_
  rintro e w4 ⟨rfl, k4⟩
  go_wp2_with fail
  have kA := (Keep.refl w4).alloc (Obj.cells #[Value.bool ng', Value.bool inf, Value.bool false, Value.int IntKind.u64 (M' : Int), Value.int IntKind.i64 E'] 51)
  have hb := heap_alloc_new w4 (Obj.cells #[Value.bool ng', Value.bool inf, Value.bool false, Value.int IntKind.u64 (M' : Int), Value.int IntKind.i64 E'] 51)
  generalize w4.alloc _ = wA at hb kA ⊢
  generalize w4.heap.size = g at hb ⊢
  have hbk : ∀ wx, Keep wA wx → wx.cell? ⟨g, 0, none⟩ = some (Value.bool ng') ∧ wx.cell? ⟨g, 1, none⟩ = some (Value.bool inf) ∧ wx.cell? ⟨g, 2, none⟩ = some (Value.bool false) ∧ wx.cell? ⟨g, 3, none⟩ = some (Value.int IntKind.u64 (M' : Int)) ∧ wx.cell? ⟨g, 4, none⟩ = some (Value.int IntKind.i64 E') := by
    intro wx kx
    have c := fun j => cell_of_row wA g j _ 51 (0, 0) hb
    exact ⟨Keep.cell kx (c 0), Keep.cell kx (c 1), Keep.cell kx (c 2), Keep.cell kx (c 3), Keep.cell kx (c 4)⟩
  replace hbk : Hid _ := hbk
  obtain ⟨c0, c1, c2, c3, c4⟩ := hbk.out _ (Keep.refl _)
  go_region_held3 (fun w' => w'.cell? ⟨g, 0, none⟩ = some (Value.bool ng') ∧ w'.cell? ⟨g, 1, none⟩ = some (Value.bool inf) ∧ w'.cell? ⟨g, 2, none⟩ = some (Value.bool false) ∧ w'.cell? ⟨g, 3, none⟩ = some (Value.int IntKind.u64 (M' : Int)) ∧ w'.cell? ⟨g, 4, none⟩ = some (Value.int IntKind.i64 E')) (go_keep) (first
    | (go_at_call 21; refine (hW _).mono ?_; rintro e w5 ⟨rfl, k5⟩; obtain ⟨d0, d1, d2, d3, d4⟩ := hbk.out _ ((Keep.refl wA).drew.trans k5))
    | (go_at_call 30; refine (hB _).mono ?_; rintro e w6 ⟨rfl, k6⟩; obtain ⟨d0, d1, d2, d3, d4⟩ := hbk.out _ (((Keep.refl wA).drew.trans k5).trans k6)))
  go_simp
  go_wp2_with fail
  go_ret
  exact ⟨x, rfl, y1.out, y2.out, (((((k1.trans k2).trans k3).trans k4).trans kA).trans ((Keep.refl wA).drew.trans k5)).trans k6⟩
end Go.Proofs.YtgjhbolnnnibkaaGreatDoor.Li
set_option linter.unusedVariables false
set_option linter.unusedSimpArgs false
namespace Go.Proofs.YtgjhbolnnnibkaaGreatDoor.Li
open Go.RowKit Lb Nr
set_option maxRecDepth 100000 in
set_option maxHeartbeats 400000 in
theorem number_any (a : Option Addr) (c : Nat) (l : List Nat) (w : World) (hl : l.length ≤ 2) (hr : Rd w a l) (hm : Lim l) :
    Calls Tryz.prog 14 #[.slice a l.length c] w fun e w' => e = .returned (.int .u64 (val l : Nat)) ∧ Keep w w' := by
  go_enter Tryz.func14, Tryz.ntmps14
  go_wp2
  go_loopw [3, 4] (fun n i wr => ∃ k : Nat, k ≤ l.length ∧ n = .int .u64 (val (l.drop k) : Nat) ∧ i = .int .i64 ((k : Int) - 1) ∧ Keep w wr) (fun _ i _ => (intOf i + 1).toNat)
  case atStart => exact ⟨l.length, Nat.le_refl _, by simp [val], rfl, Keep.refl _⟩
  case round =>
    obtain ⟨k, hk, rfl, rfl, kw⟩ := hrel
    rcases k with _ | k
    · go_wp2
      go_ret
      exact ⟨rfl, kw⟩
    · have e1 : ((k + 1 : Nat) : Int) - 1 = (k : Int) := by omega
      rw [e1]
      obtain ⟨b1, o1, rfl, hc1⟩ := (hr.keep kw) k (by omega)
      have hv := val_drop_pred l (k + 1) (by omega) hk
      rw [Nat.add_sub_cancel] at hv
      have hx : l.getD k 0 < 4294967296 := by
        rw [List.getD_eq_getElem?_getD, List.getElem?_eq_getElem (show k < l.length by omega)]
        exact hm _ (List.getElem_mem _)
      have hn : val (l.drop (k + 1)) < 4294967296 := by
        have q := val_lt (l := l.drop (k + 1)) (fun x hx => hm x (List.mem_of_mem_drop hx))
        have : (l.drop (k + 1)).length ≤ 1 := by simp; omega
        have : 4294967296 ^ (l.drop (k + 1)).length ≤ 4294967296 ^ 1 := Nat.pow_le_pow_right (by omega) this
        omega
      obtain ⟨x, hx2⟩ : ∃ x, l.getD k 0 = x := ⟨_, rfl⟩
      rw [hx2] at hc1 hv hx
      obtain ⟨n, hn2⟩ : ∃ n, val (l.drop (k + 1)) = n := ⟨_, rfl⟩
      rw [hn2] at hv hn ⊢
      have ho : bits .or .u64 ((n : Int) * 4294967296) (x : Int) = ((val (l.drop k) : Nat) : Int) := by
        have h := u64_or_nat (n * 4294967296) x (by omega) (by omega)
        rw [show ((n * 4294967296 : Nat) : Int) = (n : Int) * 4294967296 by omega] at h
        have q := (Nat.two_pow_add_eq_or_of_lt (i := 32) hx n).symm
        rw [show (2:Nat)^32 * n = n * 4294967296 by omega] at q
        rw [q] at h
        rw [hv, show x + 4294967296 * n = n * 4294967296 + x by omega]
        exact h
      have hs : IntKind.u64.wrap ((n : Int) * 4294967296) = (n : Int) * 4294967296 := by rw [IntKind.wrap_u64]; omega
      clear hx2 hn2 hv
      obtain ⟨v', hv'⟩ : ∃ v', val (l.drop k) = v' := ⟨_, rfl⟩
      rw [hv'] at ho
      replace hv' : Hid _ := hv'
      go_wp2
      go_roundw
      case rel => exact ⟨k, by omega, by rw [hv'.out], by go_num, kw⟩
      case measure => simp [intOf]
theorem nrm_last {l : List Nat} (hn : Nrm l) (h0 : 0 < l.length) : l.getD (l.length - 1) 0 ≠ 0 := by
  unfold Nrm at hn
  rw [List.getLastD_eq_getLast?, List.getLast?_eq_getElem?, List.getElem?_eq_getElem (by omega)] at hn
  rw [List.getD_eq_getElem?_getD, List.getElem?_eq_getElem (show l.length - 1 < l.length by omega)]
  exact hn
set_option maxRecDepth 100000 in
set_option maxHeartbeats 400000 in
theorem right_any (a : Option Addr) (c : Nat) (l : List Nat) (w : World) (hl : l.length ≤ 2) (hr : Rd w a l) (hn : Nrm l) :
    Calls Tryz.prog 15 #[.slice a l.length c] w fun e w' => e = .returned (.bool true) ∧ Keep w w' := by
  rcases Nat.eq_zero_or_pos l.length with h0 | h0
  · have e : l = [] := List.eq_nil_of_length_eq_zero h0
    subst e
    go_enter Tryz.func15, Tryz.ntmps15
    go_wp2
    go_ret
    exact ⟨rfl, Keep.refl _⟩
  · obtain ⟨b1, o1, rfl, hc1⟩ := hr (l.length - 1) (by omega)
    have hz : l.getD (l.length - 1) 0 ≠ 0 := nrm_last hn h0
    obtain ⟨x, hx⟩ : ∃ x, l.getD (l.length - 1) 0 = x := ⟨_, rfl⟩
    rw [hx] at hc1 hz
    clear hx
    obtain ⟨k, hk⟩ : ∃ k, l.length = k + 1 := ⟨l.length - 1, by omega⟩
    have hne : ((x : Int) != 0) = true := by rw [bne_iff_ne]; omega
    rw [hk, Nat.add_sub_cancel] at hc1
    rw [hk]
    rw [hk] at hl
    have e0 : (((k + 1 : Nat) : Int) == 0) = false := by rw [beq_eq_false_iff_ne]; omega
    have e1 : ((k + 1 : Nat) : Int) - 1 = (k : Int) := by omega
    go_enter Tryz.func15, Tryz.ntmps15
    go_wp2
    go_ret
    exact ⟨rfl, Keep.refl _⟩
set_option maxRecDepth 100000 in
set_option maxHeartbeats 400000 in
/-- The reference's Ratio. -/
theorem rRatio_any (v : Int) (w : World) (h1 : -9223372036854775808 ≤ v) (h2 : v ≤ 9223372036854775807) :
    Calls Tryz.prog 13 #[.int .i64 v] w fun e w' => e = .returned (.tuple #[.int .u64 (RN v.natAbs 1000000 : Nat), .int .u64 (RD v.natAbs 1000000 : Nat)]) ∧ Keep w w' := by
  have hA := fun wx => ramount_any v h1 h2 wx
  obtain ⟨m, hm⟩ : ∃ m, v.natAbs = m := ⟨_, rfl⟩
  have hm64 : m < 18446744073709551616 := by omega
  rw [hm] at hA ⊢
  clear hm
  rcases Nat.eq_zero_or_pos m with z | z
  · subst z
    have q1 : RN 0 1000000 = 0 := by decide
    have q2 : RD 0 1000000 = 1 := by decide
    rw [q1, q2]
    go_enter Tryz.func13, Tryz.ntmps13
    go_wp2_with fail
    refine (hA _).mono ?_
    rintro e wz ⟨rfl, hz⟩
    subst hz
    go_wp2_with fail
    go_ret2
    exact ⟨rfl, Keep.refl _⟩
  · obtain ⟨g, hg⟩ : ∃ g, Nat.gcd m 1000000 = g := ⟨_, rfl⟩
    have q1 : RN m 1000000 = m / g := by unfold RN; rw [if_neg (by omega), hg]
    have q2 : RD m 1000000 = 1000000 / g := by unfold RD; rw [if_neg (by omega), hg]
    have g0 : 0 < g := by rw [← hg]; exact Nat.gcd_pos_of_pos_left _ z
    rw [q1, q2]
    clear q1 q2
    replace hg : Hid _ := hg
    have hmz : ((m : Int) == 0) = false := by rw [beq_eq_false_iff_ne]; omega
    go_enter Tryz.func13, Tryz.ntmps13
    go_wp2_with fail
    refine (hA _).mono ?_
    rintro e wz ⟨rfl, hz⟩
    subst hz
    go_wp2_with fail
    go_loopw [6, 7] (fun p q wr => ∃ (x y : Nat), p = .int .u64 (x : Nat) ∧ q = .int .u64 (y : Nat) ∧ Hid (Nat.gcd x y = g) ∧ x < 18446744073709551616 ∧ y < 18446744073709551616 ∧ Keep wz wr) (fun _ q _ => (intOf q).toNat)
    case atStart => exact ⟨m, 1000000, rfl, rfl, hg, hm64, by omega, Keep.refl _⟩
    case round =>
      obtain ⟨x, y, rfl, rfl, hxy, hx, hy, kw⟩ := hrel
      rcases Nat.eq_zero_or_pos y with y0 | y0
      · subst y0
        have : x = g := by have := hxy.out; rw [Nat.gcd_zero_right] at this; exact this
        subst this
        have e0 : ((x : Int) == 0) = false := by rw [beq_eq_false_iff_ne]; omega
        have hT1 : (m : Int).tdiv (x : Int) = ((m / x : Nat) : Int) := by rw [Int.ofNat_tdiv]
        have hT2 : (1000000 : Int).tdiv (x : Int) = ((1000000 / x : Nat) : Int) := by rw [Int.ofNat_tdiv]; rfl
        have d1 := Nat.div_le_self m x
        have d2 := Nat.div_le_self 1000000 x
        clear hg hxy
        obtain ⟨R1, hR1⟩ : ∃ R1, m / x = R1 := ⟨_, rfl⟩
        obtain ⟨R2, hR2⟩ : ∃ R2, 1000000 / x = R2 := ⟨_, rfl⟩
        rw [hR1] at hT1 d1
        rw [hR2] at hT2 d2
        replace hR1 : Hid _ := hR1
        replace hR2 : Hid _ := hR2
        have hW1 : IntKind.u64.wrap (R1 : Int) = (R1 : Int) := by rw [IntKind.wrap_u64]; omega
        have hW2 : IntKind.u64.wrap (R2 : Int) = (R2 : Int) := by rw [IntKind.wrap_u64]; omega
        go_wp2_with fail
        go_quiet (fail)
        go_wp2_with fail
        go_ret2
        exact ⟨by rw [hR1.out, hR2.out]; rfl, kw.drewN _⟩
      · have e0 : ((y : Int) == 0) = false := by rw [beq_eq_false_iff_ne]; omega
        have e1 : ((y : Int) != 0) = true := by rw [bne_iff_ne]; omega
        have hlt := Nat.mod_lt x y0
        have hT : (x : Int).tmod (y : Int) = ((x % y : Nat) : Int) := by rw [Int.ofNat_tmod]
        have hW : IntKind.u64.wrap ((x % y : Nat) : Int) = ((x % y : Nat) : Int) := by rw [IntKind.wrap_u64]; omega
        obtain ⟨r, hr⟩ : ∃ r, x % y = r := ⟨_, rfl⟩
        rw [hr] at hT hW hlt
        replace hr : Hid _ := hr
        go_wp2_with fail
        go_quiet (fail)
        go_wp2_with fail
        go_roundw
        case rel => exact ⟨y, r, rfl, by go_num, by show _ = _; rw [← hxy.out, ← hr.out, Nat.gcd_comm x y, Nat.gcd_rec y x, Nat.gcd_comm], hy, by omega, kw.drewN _⟩
        case measure => simp [intOf]; omega
end Go.Proofs.YtgjhbolnnnibkaaGreatDoor.Li
set_option linter.unusedVariables false
set_option linter.unusedSimpArgs false
namespace Go.Proofs.YtgjhbolnnnibkaaGreatDoor.Li
open Go.RowKit Lb Nr
theorem float_one {v : Int} {x y : Nat} (hv : -9223372036854775808 ≤ v) (h1 : v = 0 → x = 0) (h2 : v ≠ 0 → ∀ E, IsE v.natAbs 1000000 E → x = wb (Nr.rup (sA v.natAbs E) (sB 1000000 E)) E + sg (decide (v < 0)))
    (g1 : v = 0 → y = 0) (g2 : v ≠ 0 → ∀ E, IsE v.natAbs 1000000 E → y = wb (Nr.rup (sA v.natAbs E) (sB 1000000 E)) E + sg (decide (v < 0))) : x = y := by
  by_cases h : v = 0
  · rw [h1 h, g1 h]
  · obtain ⟨E, hE⟩ := exE (N := v.natAbs) (D := 1000000) (by omega) (by omega)
    rw [h2 h E hE, g2 h E hE]
theorem RS_dec (v : Int) : RS (decide (v < 0)) v.natAbs 1000000 = decide (v < 0) := by
  unfold RS
  by_cases h : v = 0
  · subst h; decide
  · rw [if_neg (by omega)]
set_option maxRecDepth 100000 in
set_option maxHeartbeats 1000000 in
theorem law_floats (b : Nat) (v : Int) (w : World) (hb : b < 18446744073709551616) (h1 : -9223372036854775808 ≤ v) (h2 : v ≤ 9223372036854775807) (hT : Bi.Tab w) :
    Calls Tryz.prog 3 #[.int .u64 (b : Nat), .int .i64 v] w fun e w' => e = .returned (.bool true) ∧ Keep w w' := by
  have h7 := fun wx => f64from b wx
  have h9 := fun (x : Nat) wx => f64bits x wx
  have hN := Nearest_any b hb w hT
  have hM := fun wx => rNearest_any b hb wx
  have hF := fun wx => Float_any v wx h1 h2
  have hG := fun wx => rFloat_any v wx h1 h2
  have hR := fun wx => Ratio_any v wx h1 h2
  have hS := fun wx => rRatio_any v wx h1 h2
  simp only [RatG, RS_dec] at hR
  have t1 : RN v.natAbs 1000000 ≤ v.natAbs := by unfold RN; rw [if_neg (by omega)]; exact Nat.div_le_self _ _
  have t2 : RD v.natAbs 1000000 ≤ 1000000 := by unfold RD; rw [if_neg (by omega)]; exact Nat.div_le_self _ _
  have hone : Hid (∀ x y : Nat, (v = 0 → x = 0) → (v ≠ 0 → ∀ E, IsE v.natAbs 1000000 E → x = wb (Nr.rup (sA v.natAbs E) (sB 1000000 E)) E + sg (decide (v < 0))) → (v = 0 → y = 0) → (v ≠ 0 → ∀ E, IsE v.natAbs 1000000 E → y = wb (Nr.rup (sA v.natAbs E) (sB 1000000 E)) E + sg (decide (v < 0))) → x = y) := fun x y a b c d => float_one h1 a b c d
  have T1 : Hid (RN v.natAbs 1000000 < 18446744073709551616) := by unfold Hid; omega
  have T2 : Hid (RD v.natAbs 1000000 < 18446744073709551616) := by unfold Hid; omega
  clear t1 t2
  generalize nV b = V at *
  generalize nE b = E at *
  obtain ⟨ng, hng⟩ : ∃ g, decide (v < 0) = g := ⟨_, rfl⟩
  go_enter Tryz.func3, Tryz.ntmps3
  go_wp2_with fail
  refine hN.mono ?_
  rintro e w1 ⟨rfl, k1⟩
  go_wp2_with fail
  refine (hM _).mono ?_
  rintro e w2 ⟨rfl, k2⟩
  go_wp2_with fail
  refine (hF _).mono ?_
  rintro e w3 ⟨x, rfl, x1, x2, k3⟩
  go_wp2_with fail
  refine (hG _).mono ?_
  rintro e w4 ⟨y, rfl, y1, y2, k4⟩
  have hxy := hone.out x y x1 x2 y1 y2
  subst hxy
  clear x1 x2 y1 y2 hone
  go_wp2_with fail
  refine (hR _).mono ?_
  rintro e w5 ⟨an, cn, ln, ad, cd, ld, rfl, g1, g2, r1, r2, q1, q2, n1, n2, e1, e2, k5⟩
  have l1 : ln.length ≤ 2 := len_le_pow n1 2 (by rw [e1]; exact T1.out)
  have l2 : ld.length ≤ 2 := len_le_pow n2 2 (by rw [e2]; exact T2.out)
  have hU1 := fun wx (kx : Keep w5 wx) => number_any an cn ln wx l1 (r1.keep kx) q1
  have hU2 := fun wx (kx : Keep w5 wx) => number_any ad cd ld wx l2 (r2.keep kx) q2
  have hV1 := fun wx (kx : Keep w5 wx) => right_any an cn ln wx l1 (r1.keep kx) n1
  have hV2 := fun wx (kx : Keep w5 wx) => right_any ad cd ld wx l2 (r2.keep kx) n2
  rw [e1] at hU1
  rw [e2] at hU2
  clear T1 T2 e1 e2 r1 r2 q1 q2 n1 n2 l1 l2 g1 g2 hF hG hR hM hN
  generalize RN v.natAbs 1000000 = A at *
  generalize RD v.natAbs 1000000 = B at *
  have kA : Keep w5 (w5.alloc (Obj.cells #[Value.bool ng, Value.slice an ln.length cn, Value.slice ad ld.length cd] 34)) := (Keep.refl w5).alloc _
  have hbx := Box.new w5 (Value.bool ng) (Value.slice an ln.length cn) (Value.slice ad ld.length cd)
  go_wp2_with fail
  generalize w5.alloc _ = wA at kA hbx ⊢
  generalize w5.heap.size = g at hbx ⊢
  refine (hS _).mono ?_
  rintro e w6 ⟨rfl, k6⟩
  obtain ⟨c0, c1, c2⟩ := (hbx.keep k6).cells
  go_wp2_with fail
  refine (hU1 _ (kA.trans k6)).mono ?_
  rintro e w7 ⟨rfl, k7⟩
  obtain ⟨d0, d1, d2⟩ := ((hbx.keep k6).keep k7).cells
  go_wp2_with fail
  refine (hU2 _ ((kA.trans k6).trans k7)).mono ?_
  rintro e w8 ⟨rfl, k8⟩
  obtain ⟨f0, f1, f2⟩ := (((hbx.keep k6).keep k7).keep k8).cells
  go_wp2_with fail
  refine (hV1 _ (((kA.trans k6).trans k7).trans k8)).mono ?_
  rintro e w9 ⟨rfl, k9⟩
  obtain ⟨j0, j1, j2⟩ := ((((hbx.keep k6).keep k7).keep k8).keep k9).cells
  go_wp2_with fail
  refine (hV2 _ ((((kA.trans k6).trans k7).trans k8).trans k9)).mono ?_
  rintro e w10 ⟨rfl, k10⟩
  go_wp2_with fail
  go_ret
  exact ⟨rfl, (((((k1.trans k2).trans k3).trans k4).trans k5).trans ((((kA.trans k6).trans k7).trans k8).trans k9)).trans k10⟩
end Go.Proofs.YtgjhbolnnnibkaaGreatDoor.Li
