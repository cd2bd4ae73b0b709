import Derived.Test.YtaogjiffnebnkaaP11
set_option linter.unusedVariables false
set_option linter.unusedSimpArgs false
namespace Go.Proofs.Ytaogjiffnebnkaa
open Go.RowKit Go.Shelf
theorem mk9 {a0 a1 a2 a3 a4 a5 a6 a7 a8 : Prop} (h0 : a0) (h1 : a1) (h2 : a2) (h3 : a3) (h4 : a4) (h5 : a5) (h6 : a6) (h7 : a7) (h8 : a8) : a0 ∧ a1 ∧ a2 ∧ a3 ∧ a4 ∧ a5 ∧ a6 ∧ a7 ∧ a8 := ⟨h0, h1, h2, h3, h4, h5, h6, h7, h8⟩
set_option maxRecDepth 100000 in
set_option maxHeartbeats 4000000 in
theorem Alike_one (F : Int) (L C O : List Ct) (p1 : Nat) (na1 : Option Addr) (nc1 : Nat) (ca1 : Option Addr) (cc1 : Nat) (la1 : Option Addr) (lc1 : Nat) (p2 : Nat) (na2 : Option Addr) (nc2 : Nat) (ca2 : Option Addr) (cc2 : Nat) (la2 : Option Addr) (lc2 : Nat) (w : World) (hL : L.length ≤ 4194304) (hC : C.length ≤ 4194304) (hO : O.length ≤ 4194304) (x0 : w.cell? ⟨p1, 0, none⟩ = some (Value.int IntKind.i64 F)) (x1 : w.cell? ⟨p1, 1, none⟩ = some (Value.slice na1 L.length nc1)) (x2 : w.cell? ⟨p1, 2, none⟩ = some (Value.slice ca1 C.length cc1)) (x3 : w.cell? ⟨p1, 3, none⟩ = some (Value.slice la1 O.length lc1)) (y0 : w.cell? ⟨p2, 0, none⟩ = some (Value.int IntKind.i64 F)) (y1 : w.cell? ⟨p2, 1, none⟩ = some (Value.slice na2 L.length nc2)) (y2 : w.cell? ⟨p2, 2, none⟩ = some (Value.slice ca2 C.length cc2)) (y3 : w.cell? ⟨p2, 3, none⟩ = some (Value.slice la2 O.length lc2)) (rn1 : RdC w na1 L) (rc1 : RdC w ca1 C) (rl1 : RdC w la1 O) (rn2 : RdC w na2 L) (rc2 : RdC w ca2 C) (rl2 : RdC w la2 O) :
    Calls Try.prog 12 #[.slice (some ⟨p1, 0, none⟩) 1 1, .slice (some ⟨p2, 0, none⟩) 1 1] w fun e w' => e = .returned (.bool true) ∧ Keep w w' := by
  have h1 := fun (wx : World) (k : Keep w wx) => Same_eq na1 na2 nc1 nc2 L wx hL (rn1.keep k) (rn2.keep k)
  have h2 := fun (wx : World) (k : Keep w wx) => Same_eq ca1 ca2 cc1 cc2 C wx hC (rc1.keep k) (rc2.keep k)
  have h3 := fun (wx : World) (k : Keep w wx) => Same_eq la1 la2 lc1 lc2 O wx hO (rl1.keep k) (rl2.keep k)
  clear rn1 rn2 rc1 rc2 rl1 rl2
  go_enter Try.func12, Try.ntmps12
  go_wp2_with fail
  go_loopw [5] (fun iv wr => ∃ k : Nat, k ≤ 1 ∧ iv = .int .i64 k ∧ Keep w wr) (fun iv _ => 1 - (intOf iv).toNat)
  case atStart => exact ⟨0, by omega, rfl, Keep.refl w⟩
  case round =>
    obtain ⟨k, hk, rfl, kw⟩ := hrel
    by_cases hkl : k < 1
    · obtain rfl : k = 0 := by omega
      have x0 := kw.cell x0
      have x1 := kw.cell x1
      have x2 := kw.cell x2
      have x3 := kw.cell x3
      have y0 := kw.cell y0
      have y1 := kw.cell y1
      have y2 := kw.cell y2
      have y3 := kw.cell y3
      go_wp2_with fail
      have KD := (Keep.refl wr).drew
      have T0 := mk9 KD (KD.cell x0) (KD.cell x1) (KD.cell x2) (KD.cell x3) (KD.cell y0) (KD.cell y1) (KD.cell y2) (KD.cell y3)
      go_region_held3 (fun wx => Keep wr wx ∧ wx.cell? ⟨p1, 0, none⟩ = some (Value.int IntKind.i64 F) ∧ wx.cell? ⟨p1, 1, none⟩ = some (Value.slice na1 L.length nc1) ∧ wx.cell? ⟨p1, 2, none⟩ = some (Value.slice ca1 C.length cc1) ∧ wx.cell? ⟨p1, 3, none⟩ = some (Value.slice la1 O.length lc1) ∧ wx.cell? ⟨p2, 0, none⟩ = some (Value.int IntKind.i64 F) ∧ wx.cell? ⟨p2, 1, none⟩ = some (Value.slice na2 L.length nc2) ∧ wx.cell? ⟨p2, 2, none⟩ = some (Value.slice ca2 C.length cc2) ∧ wx.cell? ⟨p2, 3, none⟩ = some (Value.slice la2 O.length lc2)) (first | with_reducible exact T0 | with_reducible exact T3 | with_reducible exact T2 | with_reducible exact T1) (first
        | (go_at_call 19; refine (h3 _ (kw.trans K2)).mono ?_; rintro e w4 ⟨rfl, j3⟩; have K3 := K2.trans j3; have T3 := mk9 K3 (K3.cell x0) (K3.cell x1) (K3.cell x2) (K3.cell x3) (K3.cell y0) (K3.cell y1) (K3.cell y2) (K3.cell y3))
        | (go_at_call 19; refine (h2 _ (kw.trans K1)).mono ?_; rintro e w3 ⟨rfl, j2⟩; have K2 := K1.trans j2; have T2 := mk9 K2 (K2.cell x0) (K2.cell x1) (K2.cell x2) (K2.cell x3) (K2.cell y0) (K2.cell y1) (K2.cell y2) (K2.cell y3))
        | (go_at_call 19; refine (h1 _ (kw.trans KD)).mono ?_; rintro e w2 ⟨rfl, j1⟩; have K1 := KD.trans j1; have T1 := mk9 K1 (K1.cell x0) (K1.cell x1) (K1.cell x2) (K1.cell x3) (K1.cell y0) (K1.cell y1) (K1.cell y2) (K1.cell y3)))
      all_goals
        go_simp
        go_wp2_with fail
        go_roundw
        case rel => exact ⟨1, by omega, by go_num, kw.trans K3⟩
        case measure => simp [intOf]
    · obtain rfl : k = 1 := by omega
      go_wp2_with fail
      go_ret
      exact ⟨rfl, kw⟩
end Go.Proofs.Ytaogjiffnebnkaa
