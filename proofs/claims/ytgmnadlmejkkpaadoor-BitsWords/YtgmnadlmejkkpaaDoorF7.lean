import Derived.Test.YtgmnadlmejkkpaaDoorF6
set_option linter.unusedVariables false
set_option linter.unusedSimpArgs false
namespace Go.Proofs.YtgmnadlmejkkpaaDoor
open Go.RowKit
theorem ansL_len {f : Nat → Nat → Nat} {l m : List Nat} : (ansL f l m).length ≤ l.length := by
  unfold ansL; split
  · rename_i h; rw [zw_length f h]; exact Nat.le_refl _
  · simp
set_option maxRecDepth 100000 in
set_option maxHeartbeats 2000000 in
theorem law_words (a b : Option Addr) (ca cb : Nat) (l m : List Nat) (w : World) (hca : l.length ≤ ca) (hcb : m.length ≤ cb) (hl : l.length ≤ 17592186043904) (hm : m.length ≤ 17592186043904) (ha : Rd w a l) (hb : Rd w b m) (hwl : W64 l) (hwm : W64 m) (hT : Tab w) :
    Calls Tryd.prog 4 #[.slice a l.length ca, .slice b m.length cb] w fun e w' => e = .returned (.bool true) ∧ Keep w w' := by
  have A1 := fun wx (k : Keep w wx) => And_any ca cb a b l m wx (by omega) (by omega) (ha.keep k) (hb.keep k) hwl hwm
  have A2 := fun wx (k : Keep w wx) => Or_any ca cb a b l m wx (by omega) (by omega) (ha.keep k) (hb.keep k) hwl hwm
  have A3 := fun wx (k : Keep w wx) => Xor_any ca cb a b l m wx (by omega) (by omega) (ha.keep k) (hb.keep k) hwl hwm
  have R1 := fun wx (k : Keep w wx) => rDo1 ca cb a b l m wx hl (ha.keep k) (hb.keep k) hwl hwm
  have R2 := fun wx (k : Keep w wx) => rDo2 ca cb a b l m wx hl (ha.keep k) (hb.keep k) hwl hwm
  have R3 := fun wx (k : Keep w wx) => rDo3 ca cb a b l m wx hl (ha.keep k) (hb.keep k) hwl hwm
  have C1 := fun wx (k : Keep w wx) => copied_any a ca l wx (by omega) hca (ha.keep k)
  have C2 := fun wx (k : Keep w wx) => copied_any b cb m wx (by omega) hcb (hb.keep k)
  have n1 : (ansL (fun x y => x &&& y) l m).length ≤ l.length := ansL_len
  have n2 : (ansL (fun x y => x ||| y) l m).length ≤ l.length := ansL_len
  have n3 : (ansL (fun x y => x ^^^ y) l m).length ≤ l.length := ansL_len
  have HE : Hid ((l.length = m.length → ansE l m = 0 ∧ ansL (fun x y => x &&& y) l m = zw (fun x y => x &&& y) l m) ∧ (l.length ≠ m.length → ansE l m = 6)) := by
    show _ ∧ _
    unfold ansE ansL
    exact ⟨fun h => by rw [if_pos h, if_pos h]; exact ⟨rfl, rfl⟩, fun h => by rw [if_neg h]⟩
  have MO := fun (w0 w1 w2 : World) (vc vd : Value) (h1 : Own w0.heap.size w1 vc l) (h2 : Own w1.heap.size w2 vd m) (k1 : Keep w0 w1) (k2 : Keep w1 w2) => Meet_own h1 h2 k1 k2 (by omega) hwl hwm
  generalize ansE l m = E at *
  generalize ansL (fun x y => x &&& y) l m = L1 at *
  generalize ansL (fun x y => x ||| y) l m = L2 at *
  generalize ansL (fun x y => x ^^^ y) l m = L3 at *
  go_enter Tryd.func4, Tryd.ntmps4
  go_wp2_with fail
  refine (A1 w (Keep.refl w)).mono ?_
  rintro e w1 ⟨a1, c1, rfl, g1, r1, k1⟩
  go_wp2_with fail
  refine (A2 w1 k1).mono ?_
  rintro e w2 ⟨a2, c2, rfl, g2, r2, k2⟩
  have t2 := k1.trans k2
  go_wp2_with fail
  refine (A3 w2 t2).mono ?_
  rintro e w3 ⟨a3, c3, rfl, g3, r3, k3⟩
  have t3 := t2.trans k3
  go_wp2_with fail
  refine (R1 w3 t3).mono ?_
  rintro e w4 ⟨a4, c4, rfl, g4, r4, k4⟩
  have t4 := t3.trans k4
  go_wp2_with fail
  refine (R2 w4 t4).mono ?_
  rintro e w5 ⟨a5, c5, rfl, g5, r5, k5⟩
  have t5 := t4.trans k5
  go_wp2_with fail
  refine (R3 w5 t5).mono ?_
  rintro e w6 ⟨a6, c6, rfl, g6, r6, k6⟩
  have t6 := t5.trans k6
  have r1' := r1.keep ((((k2.trans k3).trans k4).trans k5).trans k6)
  have r2' := r2.keep (((k3.trans k4).trans k5).trans k6)
  have r3' := r3.keep ((k4.trans k5).trans k6)
  have r4' := r4.keep (k5.trans k6)
  have r5' := r5.keep k6
  have hLv := lives_any w6 (hT.keep t6)
  have S1 := fun wx (h : Keep w6 wx) => Same_any a1 a4 c1 c4 L1 wx (by omega) (r1'.keep h) (r4'.keep h)
  have S2 := fun wx (h : Keep w6 wx) => Same_any a2 a5 c2 c5 L2 wx (by omega) (r2'.keep h) (r5'.keep h)
  have S3 := fun wx (h : Keep w6 wx) => Same_any a3 a6 c3 c6 L3 wx (by omega) (r3'.keep h) (r6.keep h)
  have r4'' := fun wx (h : Keep w6 wx) => r4'.keep h
  clear A1 A2 A3 R1 R2 R3 r1 r2 r3 r4 r5 r6 r1' r2' r3' r5' g1 g2 g3 g4 g5 g6 k1 k2 k3 k4 k5 k6 t2 t3 t4 t5
  go_wp2_with fail
  refine hLv.mono ?_
  rintro e w7 ⟨rfl, k7⟩
  go_wp2_with fail
  refine (S1 w7 k7).mono ?_
  rintro e w8 ⟨rfl, k8⟩
  have t8 := k7.trans k8
  go_wp2_with fail
  refine (S2 w8 t8).mono ?_
  rintro e w9 ⟨rfl, k9⟩
  have t9 := t8.trans k9
  go_wp2_with fail
  refine (S3 w9 t9).mono ?_
  rintro e wA ⟨rfl, kA⟩
  have tA := t9.trans kA
  have uA := t6.trans tA
  clear S1 S2 S3 hLv
  go_wp2_with fail
  refine (C1 wA uA).mono ?_
  rintro e wB ⟨vB, rfl, oB, kB⟩
  have uB := uA.trans kB
  go_wp2_with fail
  refine (C2 wB uB).mono ?_
  rintro e wC ⟨vC, rfl, oC, kC⟩
  obtain ⟨aC, cC, aD, cD, rfl, rfl, hM⟩ := MO wA wB wC vB vC oB oC kB kC
  go_wp2_with fail
  refine hM.mono ?_
  rintro e wD ⟨rfl, rC, rD, kD⟩
  have uD := uA.trans kD
  clear C1 C2 MO hM
  by_cases hlm : l.length = m.length
  · obtain ⟨e1, e2⟩ := HE.out.1 hlm
    rw [if_pos hlm, ← e2] at rC
    have hS := Same_any aC a4 cC c4 L1 wD (by omega) rC (r4'' wD (tA.trans kD))
    have hS2 := fun wx (h : Keep wD wx) => Same_any aD b cD cb m wx (by omega) (rD.keep h) (hb.keep (uD.trans h))
    have e3 : L1.length = l.length := by rw [e2]; exact zw_length _ hlm
    rw [e3] at hS
    have HS : Hid (Calls Tryd.prog 21 #[.slice aC l.length cC, .slice a4 L1.length c4] wD fun e w' => e = .returned (.bool true) ∧ Keep wD w') := by show Calls _ _ _ _ _; rw [e3]; exact hS
    subst e1
    clear hlm hS e2 e3 HE
    go_wp2_with fail
    refine HS.out.mono ?_
    rintro e wE ⟨rfl, kE⟩
    go_wp2_with fail
    refine (hS2 wE kE).mono ?_
    rintro e wF ⟨rfl, kF⟩
    go_wp2_with fail
    go_ret
    exact ⟨rfl, uD.trans (kE.trans kF)⟩
  · have e1 := HE.out.2 hlm
    rw [if_neg hlm] at rC
    have hS := Same_any aC a cC ca l wD (by omega) rC (ha.keep uD)
    have hS2 := fun wx (h : Keep wD wx) => Same_any aD b cD cb m wx (by omega) (rD.keep h) (hb.keep (uD.trans h))
    subst e1
    clear hlm HE
    go_wp2_with fail
    refine hS.mono ?_
    rintro e wE ⟨rfl, kE⟩
    go_wp2_with fail
    refine (hS2 wE kE).mono ?_
    rintro e wF ⟨rfl, kF⟩
    go_wp2_with fail
    go_ret
    exact ⟨rfl, uD.trans (kE.trans kF)⟩
end Go.Proofs.YtgmnadlmejkkpaaDoor
