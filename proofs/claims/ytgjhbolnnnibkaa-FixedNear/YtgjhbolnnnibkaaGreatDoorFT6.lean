import Derived.Test.YtgjhbolnnnibkaaGreatDoorProg
import Derived.Test.YtgjhbolnnnibkaaGreatDoorFT4
import Derived.WalkKit
import Derived.WalkSpells
import Derived.WalkLawsBesides
import Derived.Deep.Draws
import Derived.Deep.QuietTactic
import Derived.Laws.Externs
import Derived.Shelf.Abstract
import Derived.Below
import Derived.Deep.RegionLaw
import Derived.Laws.CopyOwn
import Derived.BigRegion
import Derived.BigQuiet
import Derived.Deep.RegionHeld3
import Derived.Lib.Bytealg
set_option linter.unusedVariables false
set_option linter.unusedSimpArgs false
namespace Go.Proofs.YtgjhbolnnnibkaaGreatDoor
open Go.RowKit Go.Shelf
set_option maxRecDepth 100000 in
set_option maxHeartbeats 2000000 in
theorem decimal_part (hI : IxC) (b most : Nat) (s : List UInt8) (w : World) (hs : s.length ≤ 4096) (hm : most ≤ 4096) (h : Rr w b s 0) (ng : Bool) (k1 k2 : Nat) (hng : tk s [45] 0 = ng) (hk1 : (if ng then 1 else 0) = k1) (hk2 : k1 + (dg s k1 s.length).length = k2) (wh pt : List UInt8) (hwh : dg s k1 s.length = wh) (hne0 : wh ≠ []) (hdot : tk s [46] k2 = true) (k3 : Nat) (hpt : dg s (k2 + 1) most = pt) (hk3 : k2 + 1 + pt.length = k3) (ok : Bool) (hok : (pt == []) = !ok) :
    Calls Tryz.prog 39 #[.pointer (some ⟨b, 0, none⟩), .int .i64 (most : Int)] w fun e w' => e = .returned (.tuple #[.agg (dcl ng wh pt 0), .bool ok]) ∧ Rr w' b s k3 ∧ w.grownBy w' (some b) := by
  have hT := fun wx (hx : Rr wx b s 0) => takes_any b 0 s [45] wx hs (by omega) hx (fun c wy => hI [45] c wy)
  have hk1s : k1 ≤ s.length := by
    rw [← hk1]
    cases ng with
    | false => simp
    | true =>
      have := of_decide_eq_true hng
      simp
      omega
  rw [hng] at hT
  have e0 : (if ng = true then 0 + 1 else 0) = k1 := by rw [← hk1]
  rw [e0] at hT
  have hD := fun wx (hx : Rr wx b s k1) => digits_any hI b k1 s.length s wx hs hk1s hs hx
  rw [hk2] at hD
  have hsz : (ByteArray.mk s.toArray).size = s.length := sz_mk s
  have hk2s : k2 ≤ s.length := by have := dg_le s k1 s.length; omega
  rw [hwh] at hD
  have hT2 := fun wx (hx : Rr wx b s k2) => takes_any b k2 s [46] wx hs hk2s hx (fun c wy => hI [46] c wy)
  rw [hdot] at hT2
  simp only [if_true] at hT2
  have hk2t : k2 + 1 ≤ s.length := by have := of_decide_eq_true hdot; omega
  have hD2 := fun wx (hx : Rr wx b s (k2 + 1)) => digits_any hI b (k2 + 1) most s wx hs hk2t hm hx
  rw [hpt, hk3] at hD2
  obtain ⟨L, hL⟩ : ∃ L, s.length = L := ⟨_, rfl⟩
  rw [hL] at hD hsz
  have HR : Hid (Rr w b s 0) := h
  have HB : Hid (b < w.heap.size) := h.lt
  have t1 : True := trivial
  have t2 : True := trivial
  have hwb : (wh == []) = false := by simpa using hne0
  clear hng hk1 hwh h e0 hL hk2 hpt hk3
  go_enter Tryz.func39, Tryz.ntmps39
  go_wp2_with (first
    | (go_at_call 64; clear t1; refine (hT _ (HR.out.alloc _)).mono ?_; rintro e w2 ⟨rfl, r2, o2⟩; have hb2 : b < w2.heap.size := r2.lt; have c02 := r2.c0; have R2 : Hid (Rr w2 b s k1) := r2; have X2 : Hid (Bx w2 w.heap.size (dcl false [] [] 0)) := (Bx.new w _).oth o2 (by have := HB.out; omega); have G2 : Hid (w.grownBy w2 (some b)) := gro_trans (World.grownBy_alloc w _ _) o2.grown; have S2 : Hid (w2.heap.size = w.heap.size + 1) := (by have := o2.size; rw [World.size_alloc] at this; exact this); clear r2 o2)
    | (go_at_call 65; clear t2; refine (hD _ (R2.out.alloc _)).mono ?_; rintro e w3 ⟨rfl, r3, o3⟩; have R3 : Hid (Rr w3 b s k2) := r3; have X3 : Hid (Bx w3 w.heap.size (dcl false [] [] 0)) := (X2.out.alloc _).oth o3 (by have := HB.out; omega); have Y3 : Hid (Bx w3 w2.heap.size (dcl ng [] [] 0)) := (Bx.new w2 _).oth o3 (by omega); have G3 : Hid (w.grownBy w3 (some b)) := gro_trans (gro_alloc G2.out _) o3.grown; have y0 := Y3.out.cell 0; have y1 := Y3.out.cell 1; have y2 := Y3.out.cell 2; have y3 := Y3.out.cell 3; have fy := Y3.out.frozen 1; have hne : b ≠ w2.heap.size := (by omega); have hne2 : w.heap.size ≠ w2.heap.size := (by have := S2.out; omega); have R4 : Hid (Rr (w3.setCell ⟨w2.heap.size, 1, none⟩ (.string ⟨wh.toArray⟩)) b s k2) := R3.out.other hne _; have X4 : Hid (Bx (w3.setCell ⟨w2.heap.size, 1, none⟩ (.string ⟨wh.toArray⟩)) w.heap.size (dcl false [] [] 0)) := X3.out.other hne2 _; have Y4 : Hid (Bx (w3.setCell ⟨w2.heap.size, 1, none⟩ (.string ⟨wh.toArray⟩)) w2.heap.size #[.bool ng, .string ⟨wh.toArray⟩, .string ⟨#[]⟩, .int .i64 0]) := Y3.out.set _; have G4 : Hid (w.grownBy (w3.setCell ⟨w2.heap.size, 1, none⟩ (.string ⟨wh.toArray⟩)) (some b)) := gro_set G3.out (by have := S2.out; omega) _; clear r3 o3)
    | (go_at_call 64; refine (hT2 _ R4.out).mono ?_; rintro e w5 ⟨rfl, r5, o5⟩; have R5 : Hid (Rr w5 b s (k2 + 1)) := r5; have X5 : Hid (Bx w5 w.heap.size (dcl false [] [] 0)) := X4.out.oth o5 (by have := HB.out; omega); have Y5 : Hid (Bx w5 w2.heap.size #[.bool ng, .string ⟨wh.toArray⟩, .string ⟨#[]⟩, .int .i64 0]) := Y4.out.oth o5 (by omega); have G5 : Hid (w.grownBy w5 (some b)) := gro_trans G4.out o5.grown; clear r5 o5)
    | (go_at_call 65; refine (hD2 _ R5.out).mono ?_; rintro e w6 ⟨rfl, r6, o6⟩; have R6 : Hid (Rr w6 b s k3) := r6; have X6 : Hid (Bx w6 w.heap.size (dcl false [] [] 0)) := X5.out.oth o6 (by have := HB.out; omega); have Y6 : Hid (Bx w6 w2.heap.size #[.bool ng, .string ⟨wh.toArray⟩, .string ⟨#[]⟩, .int .i64 0]) := Y5.out.oth o6 (by omega); have G6 : Hid (w.grownBy w6 (some b)) := gro_trans G5.out o6.grown; clear y0 y1 y2 y3 fy; have y0 := Y6.out.cell 0; have y1 := Y6.out.cell 1; have y2 := Y6.out.cell 2; have y3 := Y6.out.cell 3; have fy := Y6.out.frozen 2; clear r6 o6))
  have Y : Bx (w6.setCell ⟨w2.heap.size, 2, none⟩ (.string ⟨pt.toArray⟩)) w2.heap.size #[.bool ng, .string ⟨wh.toArray⟩, .string ⟨pt.toArray⟩, .int .i64 0] := Y6.out.set _
  have X := X6.out.other hne2 (j := 2) (.string ⟨pt.toArray⟩)
  have R := R6.out.other hne (j := 2) (.string ⟨pt.toArray⟩)
  have G : w.grownBy (w6.setCell ⟨w2.heap.size, 2, none⟩ (.string ⟨pt.toArray⟩)) (some b) := gro_set G6.out (by have := S2.out; omega) _
  generalize w6.setCell ⟨w2.heap.size, 2, none⟩ (.string ⟨pt.toArray⟩) = w7 at Y X R G ⊢
  clear y0 y1 y2 y3 fy Y4 X4 R4 G4 Y5 X5 R5 G5 Y6 X6 R6 G6
  have z0 := Y.cell 0
  have z1 := Y.cell 1
  have z2 := Y.cell 2
  have z3 := Y.cell 3
  have x0 := X.cell 0
  have x1 := X.cell 1
  have x2 := X.cell 2
  have x3 := X.cell 3
  have u0 := X.frozen 0
  have u1 := X.frozen 1
  have u2 := X.frozen 2
  have u3 := X.frozen 3
  have hbg : b ≠ w.heap.size := by have := HB.out; omega
  have QQ : Hid (∀ v0 v1 v2 v3, _) := fun v0 v1 v2 v3 => put4 X R hbg (Nat.le_refl _) G v0 v1 v2 v3
  clear X R G Y
  go_region
  go_wp2_with fail
  obtain ⟨p1, p2, p3⟩ := QQ.out (.bool ng) (.string ⟨wh.toArray⟩) (.string ⟨pt.toArray⟩) (.int .i64 0)
  exact bodyPost_ret (results_box4 rfl _ _ w.heap.size _ _ _ _ rfl p1) rfl ⟨rfl, p2, p3⟩
end Go.Proofs.YtgjhbolnnnibkaaGreatDoor
