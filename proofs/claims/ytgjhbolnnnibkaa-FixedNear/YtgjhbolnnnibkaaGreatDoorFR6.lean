import Derived.Test.YtgjhbolnnnibkaaGreatDoorProg
import Derived.Test.YtgjhbolnnnibkaaGreatDoorFT4
import Derived.WalkKit
import Derived.WalkSpells
import Derived.WalkLawsBesides
import Derived.Deep.Draws
import Derived.Deep.QuietTactic
import Derived.Laws.Externs
import Derived.Shelf.Abstract
import Derived.Below
import Derived.Deep.RegionLaw
import Derived.Laws.CopyOwn
import Derived.BigRegion
import Derived.BigQuiet
import Derived.Deep.RegionHeld3
import Derived.Lib.Bytealg
import Derived.Test.YtgjhbolnnnibkaaGreatDoorFT12
import Derived.Laws.RangeString
import Derived.Laws.RangeAny
import Derived.Lib.OthersKept
import Derived.Deep.LoopGhost
import Derived.Shelf.Strings.Trim
import Derived.Shelf.Small.Strs
import Derived.Shelf.Strings.Search1
import Derived.Shelf.Strings.Repeat
set_option linter.unusedVariables false
set_option linter.unusedSimpArgs false
namespace Go.Proofs.YtgjhbolnnnibkaaGreatDoor
open Go.RowKit Go.Shelf
set_option maxRecDepth 100000 in
set_option maxHeartbeats 2000000 in
theorem decimal_whole (hI : IxC) (b most : Nat) (s : List UInt8) (w : World) (hs : s.length ≤ 4096) (hm : most ≤ 4096) (h : Rr w b s 0) (ng : Bool) (k1 k2 : Nat) (hng : tk s [45] 0 = ng) (hk1 : (if ng then 1 else 0) = k1) (hk2 : k1 + (dg s k1 s.length).length = k2) (wh : List UInt8) (hwh : dg s k1 s.length = wh) (hne0 : wh ≠ []) (hdot : tk s [46] k2 = false) :
    Calls Tryz.prog 39 #[.pointer (some ⟨b, 0, none⟩), .int .i64 (most : Int)] w fun e w' => e = .returned (.tuple #[.agg (dcl ng wh [] 0), .bool true]) ∧ Rr w' b s k2 ∧ w.grownBy w' (some b) := by
  have hT := fun wx (hx : Rr wx b s 0) => takes_any b 0 s [45] wx hs (by omega) hx (fun c wy => hI [45] c wy)
  have hk1s : k1 ≤ s.length := by
    rw [← hk1]
    cases ng with
    | false => simp
    | true =>
      have := of_decide_eq_true hng
      simp
      omega
  rw [hng] at hT
  have e0 : (if ng = true then 0 + 1 else 0) = k1 := by rw [← hk1]
  rw [e0] at hT
  have hD := fun wx (hx : Rr wx b s k1) => digits_any hI b k1 s.length s wx hs hk1s hs hx
  rw [hk2] at hD
  have hsz : (ByteArray.mk s.toArray).size = s.length := sz_mk s
  have hk2s : k2 ≤ s.length := by have := dg_le s k1 s.length; omega
  rw [hwh] at hD
  have hT2 := fun wx (hx : Rr wx b s k2) => takes_any b k2 s [46] wx hs hk2s hx (fun c wy => hI [46] c wy)
  rw [hdot] at hT2
  simp only [Bool.false_eq_true, if_false] at hT2
  obtain ⟨L, hL⟩ : ∃ L, s.length = L := ⟨_, rfl⟩
  rw [hL] at hD hsz
  have HR : Hid (Rr w b s 0) := h
  have HB : Hid (b < w.heap.size) := h.lt
  have t1 : True := trivial
  have t2 : True := trivial
  have hwb : (wh == []) = false := by simpa using hne0
  clear hng hk1 hwh h e0 hL hk2
  go_enter Tryz.func39, Tryz.ntmps39
  go_wp2_with (first
    | (go_at_call 64; clear t1; refine (hT _ (HR.out.alloc _)).mono ?_; rintro e w2 ⟨rfl, r2, o2⟩; have hb2 : b < w2.heap.size := r2.lt; have c02 := r2.c0; have R2 : Hid (Rr w2 b s k1) := r2; have X2 : Hid (Bx w2 w.heap.size (dcl false [] [] 0)) := (Bx.new w _).oth o2 (by have := HB.out; omega); have G2 : Hid (w.grownBy w2 (some b)) := gro_trans (World.grownBy_alloc w _ _) o2.grown; have S2 : Hid (w2.heap.size = w.heap.size + 1) := (by have := o2.size; rw [World.size_alloc] at this; exact this); clear r2 o2)
    | (go_at_call 65; clear t2; refine (hD _ (R2.out.alloc _)).mono ?_; rintro e w3 ⟨rfl, r3, o3⟩; have R3 : Hid (Rr w3 b s k2) := r3; have X3 : Hid (Bx w3 w.heap.size (dcl false [] [] 0)) := (X2.out.alloc _).oth o3 (by have := HB.out; omega); have Y3 : Hid (Bx w3 w2.heap.size (dcl ng [] [] 0)) := (Bx.new w2 _).oth o3 (by omega); have G3 : Hid (w.grownBy w3 (some b)) := gro_trans (gro_alloc G2.out _) o3.grown; have y0 := Y3.out.cell 0; have y1 := Y3.out.cell 1; have y2 := Y3.out.cell 2; have y3 := Y3.out.cell 3; have fy := Y3.out.frozen 1; have hne : b ≠ w2.heap.size := (by omega); have hne2 : w.heap.size ≠ w2.heap.size := (by have := S2.out; omega); have R4 : Hid (Rr (w3.setCell ⟨w2.heap.size, 1, none⟩ (.string ⟨wh.toArray⟩)) b s k2) := R3.out.other hne _; have X4 : Hid (Bx (w3.setCell ⟨w2.heap.size, 1, none⟩ (.string ⟨wh.toArray⟩)) w.heap.size (dcl false [] [] 0)) := X3.out.other hne2 _; have Y4 : Hid (Bx (w3.setCell ⟨w2.heap.size, 1, none⟩ (.string ⟨wh.toArray⟩)) w2.heap.size #[.bool ng, .string ⟨wh.toArray⟩, .string ⟨#[]⟩, .int .i64 0]) := Y3.out.set _; have G4 : Hid (w.grownBy (w3.setCell ⟨w2.heap.size, 1, none⟩ (.string ⟨wh.toArray⟩)) (some b)) := gro_set G3.out (by have := S2.out; omega) _; clear r3 o3)
    | (go_at_call 64; refine (hT2 _ R4.out).mono ?_; rintro e w5 ⟨rfl, r5, o5⟩; have R5 : Hid (Rr w5 b s k2) := r5; have X5 : Hid (Bx w5 w.heap.size (dcl false [] [] 0)) := X4.out.oth o5 (by have := HB.out; omega); have Y5 : Hid (Bx w5 w2.heap.size #[.bool ng, .string ⟨wh.toArray⟩, .string ⟨#[]⟩, .int .i64 0]) := Y4.out.oth o5 (by omega); have G5 : Hid (w.grownBy w5 (some b)) := gro_trans G4.out o5.grown; clear r5 o5))
  have Y := Y5.out
  have X := X5.out
  have R := R5.out
  have G := G5.out
  clear y0 y1 y2 y3 fy Y4 X4 R4 G4
  have z0 := Y.cell 0
  have z1 := Y.cell 1
  have z2 := Y.cell 2
  have z3 := Y.cell 3
  have x0 := X.cell 0
  have x1 := X.cell 1
  have x2 := X.cell 2
  have x3 := X.cell 3
  have u0 := X.frozen 0
  have u1 := X.frozen 1
  have u2 := X.frozen 2
  have u3 := X.frozen 3
  have hbg : b ≠ w.heap.size := by have := HB.out; omega
  have QQ : Hid (∀ v0 v1 v2 v3, _) := fun v0 v1 v2 v3 => put4 X R hbg (Nat.le_refl _) G v0 v1 v2 v3
  clear X R G Y
  go_region
  go_wp2_with fail
  obtain ⟨p1, p2, p3⟩ := QQ.out (.bool ng) (.string ⟨wh.toArray⟩) (.string ⟨#[]⟩) (.int .i64 0)
  exact bodyPost_ret (results_box4 rfl _ _ w.heap.size _ _ _ _ rfl p1) rfl ⟨rfl, p2, p3⟩
end Go.Proofs.YtgjhbolnnnibkaaGreatDoor
set_option linter.unusedVariables false
set_option linter.unusedSimpArgs false
namespace Go.Proofs.YtgjhbolnnnibkaaGreatDoor
open Go.RowKit Go.Shelf
set_option maxRecDepth 100000 in
set_option maxHeartbeats 2000000 in
theorem Read_long (s : List UInt8) (w : World) (hs : ¬ s.length ≤ 4096) (hm : s.length ≤ 9223372036854775807) :
    Calls Tryz.prog 34 #[.string ⟨s.toArray⟩] w fun e w' => e = .returned (.tuple #[.int .i64 0, .int .i64 4, .int .i64 0]) ∧ Keep w w' := by
  have s1 : (ByteArray.mk s.toArray).size = s.length := sz_mk s
  obtain ⟨L, hL⟩ : ∃ L, s.length = L := ⟨_, rfl⟩
  rw [hL] at s1 hs hm
  have hL1 : (4096 : Int) < (L : Int) := by omega
  go_enter Tryz.func34, Tryz.ntmps34
  go_wp2_with fail
  go_ret3
  exact ⟨rfl, Keep.refl w⟩
set_option maxRecDepth 100000 in
set_option maxHeartbeats 2000000 in
theorem Rounded_long (s : List UInt8) (w : World) (hs : ¬ s.length ≤ 4096) (hm : s.length ≤ 9223372036854775807) :
    Calls Tryz.prog 18 #[.string ⟨s.toArray⟩] w fun e w' => e = .returned (.tuple #[.int .i64 0, .int .i64 4, .int .i64 0]) ∧ Keep w w' := by
  have s1 : (ByteArray.mk s.toArray).size = s.length := sz_mk s
  obtain ⟨L, hL⟩ : ∃ L, s.length = L := ⟨_, rfl⟩
  rw [hL] at s1 hs hm
  have hL1 : (4096 : Int) < (L : Int) := by omega
  go_enter Tryz.func18, Tryz.ntmps18
  go_wp2_with fail
  go_ret3
  exact ⟨rfl, Keep.refl w⟩
/-- The parts of a decimal without a power: whether '-' stands ahead, where the digits begin, the digits, where they end. -/
def pNg (s : List UInt8) : Bool := tk s [45] 0
def pK1 (s : List UInt8) : Nat := if pNg s then 1 else 0
def pWh (s : List UInt8) : List UInt8 := dg s (pK1 s) s.length
def pK2 (s : List UInt8) : Nat := pK1 s + (pWh s).length
def pDot (s : List UInt8) : Bool := !(pWh s == []) && tk s [46] (pK2 s)
def pPt (most : Nat) (s : List UInt8) : List UInt8 := if pDot s then dg s (pK2 s + 1) most else []
def pK3 (most : Nat) (s : List UInt8) : Nat := if pDot s then pK2 s + 1 + (pPt most s).length else pK2 s
/-- Whether it could be read so far. -/
def pOk (most : Nat) (s : List UInt8) : Bool := !(pWh s == []) && (!(pDot s) || !(pPt most s == []))
theorem pWh_d (s : List UInt8) : allD (pWh s) := (allD.while _).take _
theorem pPt_d (most : Nat) (s : List UInt8) : allD (pPt most s) := by
  unfold pPt
  split
  · exact (allD.while _).take _
  · intro x hx; cases hx
theorem pK1_le (s : List UInt8) : pK1 s ≤ s.length := by
  unfold pK1
  split
  · rename_i h; have := of_decide_eq_true h; omega
  · omega
theorem pK2_le (s : List UInt8) : pK2 s ≤ s.length := by
  unfold pK2
  have h1 := dg_le s (pK1 s) s.length
  have h2 := pK1_le s
  unfold pWh
  omega
theorem pK3_le (most : Nat) (s : List UInt8) : pK3 most s ≤ s.length ∧ (pWh s).length + (pPt most s).length ≤ s.length := by
  have h2 := pK2_le s
  unfold pK3 pPt
  by_cases h : pDot s = true
  · simp only [h, if_true]
    have h1 := dg_le s (pK2 s + 1) most
    have h3 : pK2 s < s.length := by
      unfold pDot at h
      exact (of_decide_eq_true (Bool.and_eq_true_iff.1 h).2).1
    unfold pK2 at h1 h2 h3 ⊢
    omega
  · simp only [h]
    unfold pK2 at h2 ⊢
    simp
    omega
/-- decimal, whatever the text. -/
theorem decimal_any (s : List UInt8) (most : Nat) (hs : s.length ≤ 4096) (hm : most ≤ 4096) (wx : World) (b : Nat) (h : Rr wx b s 0) : Calls Tryz.prog 39 #[.pointer (some ⟨b, 0, none⟩), .int .i64 (most : Int)] wx fun e w' => e = .returned (.tuple #[.agg (dcl (pNg s) (pWh s) (pPt most s) 0), .bool (pOk most s)]) ∧ Rr w' b s (pK3 most s) ∧ wx.grownBy w' (some b) := by
  by_cases h0 : pWh s = []
  · have hd : pDot s = false := by unfold pDot; rw [h0]; rfl
    have e1 : pPt most s = [] := by unfold pPt; rw [hd]; rfl
    have e2 : pK3 most s = pK2 s := by unfold pK3; rw [hd]; rfl
    have e3 : pOk most s = false := by unfold pOk; rw [h0]; rfl
    rw [e1, e2, e3, h0]
    exact decimal_none ixC b most s wx hs hm h (pNg s) (pK1 s) (pK2 s) rfl rfl rfl h0
  · have h0b : (pWh s == []) = false := by simpa using h0
    by_cases hd : tk s [46] (pK2 s) = true
    · have hd2 : pDot s = true := by unfold pDot; rw [h0b, hd]; rfl
      have e1 : dg s (pK2 s + 1) most = pPt most s := by unfold pPt; rw [hd2]; rfl
      have e2 : pK2 s + 1 + (pPt most s).length = pK3 most s := by unfold pK3; rw [hd2]; rfl
      have e3 : (pPt most s == []) = !(pOk most s) := by unfold pOk; rw [h0b, hd2]; simp
      exact decimal_part ixC b most s wx hs hm h (pNg s) (pK1 s) (pK2 s) rfl rfl rfl (pWh s) (pPt most s) rfl h0 hd (pK3 most s) e1 e2 (pOk most s) e3
    · have hd1 : tk s [46] (pK2 s) = false := by simpa using hd
      have hd2 : pDot s = false := by unfold pDot; rw [h0b, hd1]; rfl
      have e1 : pPt most s = [] := by unfold pPt; rw [hd2]; rfl
      have e2 : pK3 most s = pK2 s := by unfold pK3; rw [hd2]; rfl
      have e3 : pOk most s = true := by unfold pOk; rw [h0b, hd2]; rfl
      rw [e1, e2, e3]
      exact decimal_whole ixC b most s wx hs hm h (pNg s) (pK1 s) (pK2 s) rfl rfl rfl (pWh s) rfl h0 hd1
/-- Read: what it answers. -/
def rN (s : List UInt8) : Nat := mv (nat (pWh s ++ pPt 6 s)) (0 - (pPt 6 s).length + 6)
def rGood (s : List UInt8) : Prop := pOk 6 s = true ∧ pK3 6 s = s.length
theorem Read_good (s : List UInt8) (w : World) (hs : s.length ≤ 4096) (hg : rGood s) :
    Calls Tryz.prog 34 #[.string ⟨s.toArray⟩] w fun e w' => e = .returned (.tuple #[.int .i64 (sgV (pNg s) (rN s)), .int .i64 (sgE (pNg s) (rN s)), .int .i64 0]) ∧ Keep w w' := by
  have hd := fun wx b h => decimal_any s 6 hs (by omega) wx b h
  rw [hg.1, hg.2] at hd
  have h3 := (pK3_le 6 s).2
  exact Read_of s w hs (pNg s) (pWh s) (pPt 6 s) true s.length _ _ _ hd (fun wx => told_ok (pNg s) (pWh s) (pPt 6 s) 0 wx s hs (by omega) (by omega) (pWh_d s) (pPt_d 6 s) (rN s) rfl)
theorem Read_bad (s : List UInt8) (w : World) (hs : s.length ≤ 4096) (hg : ¬ rGood s) :
    Calls Tryz.prog 34 #[.string ⟨s.toArray⟩] w fun e w' => e = .returned (.tuple #[.int .i64 0, .int .i64 40, .int .i64 (pK3 6 s : Int)]) ∧ Keep w w' := by
  have hd := fun wx b h => decimal_any s 6 hs (by omega) wx b h
  have h3 := (pK3_le 6 s).1
  have hb : pOk 6 s = false ∨ pK3 6 s < s.length := by
    unfold rGood at hg
    cases ho : pOk 6 s with
    | false => exact .inl rfl
    | true =>
      refine .inr ?_
      have : ¬ pK3 6 s = s.length := fun e => hg ⟨ho, e⟩
      omega
  exact Read_of s w hs (pNg s) (pWh s) (pPt 6 s) (pOk 6 s) (pK3 6 s) _ _ _ hd (fun wx => told_bad (pNg s) (pWh s) (pPt 6 s) 0 wx s (pK3 6 s) (pOk 6 s) hs h3 hb)
end Go.Proofs.YtgjhbolnnnibkaaGreatDoor
set_option linter.unusedVariables false
set_option linter.unusedSimpArgs false
namespace Go.Proofs.YtgjhbolnnnibkaaGreatDoor
open Go.RowKit Go.Shelf
/-- A power's parts, from k on. -/
def qE (s : List UInt8) (k : Nat) : Bool := tk s [101, 69] k
def qNg (s : List UInt8) (k : Nat) : Bool := tk s [45] (k + 1)
def qPl (s : List UInt8) (k : Nat) : Bool := tk s [43] (k + 1)
def qK2 (s : List UInt8) (k : Nat) : Nat := if qNg s k then k + 2 else if qPl s k then k + 1 + 1 else k + 1
def qDs (s : List UInt8) (k : Nat) : List UInt8 := dg s (qK2 s k) s.length
def qP (s : List UInt8) (k : Nat) : Int := if qE s k then (if qNg s k then -((min (nat (qDs s k)) far : Nat) : Int) else ((min (nat (qDs s k)) far : Nat) : Int)) else 0
def qOk (s : List UInt8) (k : Nat) : Bool := !(qE s k) || !(qDs s k == [])
def qK (s : List UInt8) (k : Nat) : Nat := if qE s k then qK2 s k + (qDs s k).length else k
theorem qP_in (s : List UInt8) (k : Nat) : -1048576 ≤ qP s k ∧ qP s k ≤ 1048576 := by
  have h : min (nat (qDs s k)) far ≤ 1048576 := Nat.min_le_right _ _
  unfold qP
  split
  · split <;> omega
  · omega
theorem qK_le (s : List UInt8) (k : Nat) (hk : k ≤ s.length) : qK s k ≤ s.length := by
  unfold qK
  by_cases h : qE s k = true
  · simp only [h, if_true]
    have h1 := dg_le s (qK2 s k) s.length
    have h2 := of_decide_eq_true h
    have h3 : qK2 s k ≤ s.length := by
      unfold qK2
      split
      · rename_i q; have := of_decide_eq_true q; omega
      · split
        · rename_i q; have := of_decide_eq_true q; omega
        · omega
    unfold qDs
    omega
  · simp only [h]
    simpa using hk
theorem power_any (s : List UInt8) (k : Nat) (hs : s.length ≤ 4096) (hk : k ≤ s.length) (w : World) (b : Nat) (h : Rr w b s k) :
    Calls Tryz.prog 40 #[.pointer (some ⟨b, 0, none⟩)] w fun e w' => e = .returned (.tuple #[.int .i64 (qP s k), .bool (qOk s k)]) ∧ Rr w' b s (qK s k) ∧ w.grownBy w' (some b) := by
  by_cases hE : qE s k = true
  · have hok : (qDs s k == []) = !(qOk s k) := by unfold qOk; rw [hE]; simp
    have e2 : qK s k = qK2 s k + (qDs s k).length := by unfold qK; rw [hE]; rfl
    by_cases hN : qNg s k = true
    · have e1 : qP s k = -((min (nat (qDs s k)) far : Nat) : Int) := by unfold qP; rw [hE, hN]; rfl
      have e3 : qK2 s k = k + 2 := by unfold qK2; rw [hN]; rfl
      rw [e1]
      refine power_minus ixC b k s w hs hk h hE hN (qDs s k) ?_ (qK s k) ?_ (qOk s k) hok
      · unfold qDs; rw [e3]
      · rw [e2, e3]
    · have hN2 : qNg s k = false := by simpa using hN
      have e1 : qP s k = ((min (nat (qDs s k)) far : Nat) : Int) := by unfold qP; rw [hE, hN2]; rfl
      have e3 : (if qPl s k = true then k + 1 + 1 else k + 1) = qK2 s k := by unfold qK2; rw [hN2]; rfl
      rw [e1]
      exact power_plus ixC b k s w hs hk h hE hN2 (qPl s k) rfl (qK2 s k) e3 (qDs s k) rfl (qK s k) e2.symm (qOk s k) hok
  · have hE2 : qE s k = false := by simpa using hE
    have e1 : qP s k = 0 := by unfold qP; rw [hE2]; rfl
    have e2 : qK s k = k := by unfold qK; rw [hE2]; rfl
    have e3 : qOk s k = true := by unfold qOk; rw [hE2]; rfl
    rw [e1, e2, e3]
    exact power_none ixC b k s w hs hk h hE2
/-- Rounded: what it answers. -/
def oPt (s : List UInt8) : List UInt8 := pPt s.length s
def oK (s : List UInt8) : Nat := pK3 s.length s
def oOk (s : List UInt8) : Bool := pOk s.length s && qOk s (oK s)
def oEnd (s : List UInt8) : Nat := if pOk s.length s then qK s (oK s) else oK s
def oN (s : List UInt8) : Nat := mv (nat (pWh s ++ oPt s)) (qP s (oK s) - (oPt s).length + 6)
def oGood (s : List UInt8) : Prop := oOk s = true ∧ oEnd s = s.length
theorem Rounded_good (s : List UInt8) (w : World) (hs : s.length ≤ 4096) (hg : oGood s) :
    Calls Tryz.prog 18 #[.string ⟨s.toArray⟩] w fun e w' => e = .returned (.tuple #[.int .i64 (sgV (pNg s) (oN s)), .int .i64 (sgE (pNg s) (oN s)), .int .i64 0]) ∧ Keep w w' := by
  obtain ⟨hg1, hg2⟩ := hg
  have hp := (Bool.and_eq_true_iff.1 hg1).1
  have hq := (Bool.and_eq_true_iff.1 hg1).2
  have hd := fun wx b h => decimal_any s s.length hs hs wx b h
  have hw := fun wx b h => power_any s (oK s) hs (pK3_le s.length s).1 wx b h
  rw [hp] at hd
  have e : qK s (oK s) = s.length := by unfold oEnd at hg2; rw [hp] at hg2; exact hg2
  rw [hq, e] at hw
  have h3 := (pK3_le s.length s).2
  exact Rounded_of s w hs (pNg s) (pWh s) (oPt s) (qP s (oK s)) true (oK s) s.length _ _ _ hd hw (fun wx => told_ok (pNg s) (pWh s) (oPt s) _ wx s hs (by unfold oPt; omega) (qP_in _ _) (pWh_d s) (pPt_d _ s) (oN s) rfl)
theorem Rounded_fault (s : List UInt8) (w : World) (hs : s.length ≤ 4096) (hg : ¬ oGood s) :
    Calls Tryz.prog 18 #[.string ⟨s.toArray⟩] w fun e w' => e = .returned (.tuple #[.int .i64 0, .int .i64 40, .int .i64 (oEnd s : Int)]) ∧ Keep w w' := by
  have hd := fun wx b h => decimal_any s s.length hs hs wx b h
  have hw := fun wx b h => power_any s (oK s) hs (pK3_le s.length s).1 wx b h
  cases hp : pOk s.length s with
  | false =>
    rw [hp] at hd
    have e : oEnd s = oK s := by unfold oEnd; rw [hp]; rfl
    rw [e]
    exact Rounded_bad s w hs (pNg s) (pWh s) (oPt s) (oK s) _ _ _ hd (fun wx => told_bad (pNg s) (pWh s) (oPt s) 0 wx s (oK s) false hs (pK3_le s.length s).1 (.inl rfl))
  | true =>
    rw [hp] at hd
    have e : oEnd s = qK s (oK s) := by unfold oEnd; rw [hp]; rfl
    rw [e]
    have hk := qK_le s (oK s) (pK3_le s.length s).1
    have hb : qOk s (oK s) = false ∨ qK s (oK s) < s.length := by
      cases hq : qOk s (oK s) with
      | false => exact .inl rfl
      | true =>
        refine .inr ?_
        have : ¬ oEnd s = s.length := fun e => hg ⟨by unfold oOk; rw [hp, hq]; rfl, e⟩
        omega
    exact Rounded_of s w hs (pNg s) (pWh s) (oPt s) (qP s (oK s)) (qOk s (oK s)) (oK s) (qK s (oK s)) _ _ _ hd hw (fun wx => told_bad (pNg s) (pWh s) (oPt s) _ wx s _ _ hs hk hb)
end Go.Proofs.YtgjhbolnnnibkaaGreatDoor
set_option linter.unusedVariables false
set_option linter.unusedSimpArgs false
namespace Go.Proofs.YtgjhbolnnnibkaaGreatDoor
open Go.RowKit Go.Shelf
/-- What is said of a text by its reading: the answer's three parts. -/
structure RdA (s : List UInt8) (V E K : Int) : Prop where
  good : rGood s → V = sgV (pNg s) (rN s) ∧ E = sgE (pNg s) (rN s) ∧ K = 0
  bad : ¬ rGood s → V = 0 ∧ E = 40 ∧ K = (pK3 6 s : Int)
theorem RdA.of_bad {s : List UInt8} {K : Int} (hg : ¬ rGood s) (hK : K = (pK3 6 s : Int)) : RdA s 0 40 K := ⟨fun q => absurd q hg, fun _ => ⟨rfl, rfl, hK⟩⟩
theorem RdA.of_good {s : List UInt8} {V E : Int} (hg : rGood s) (hV : V = sgV (pNg s) (rN s)) (hE : E = sgE (pNg s) (rN s)) : RdA s V E 0 := ⟨fun _ => ⟨hV, hE, rfl⟩, fun q => absurd hg q⟩
/-- Digits, and no point. -/
theorem no_dot {s : List UInt8} {m : Nat} (h : 0 < (pWh s).length) (h2 : pK2 s = m) (hd : tk s [46] m = false) : pDot s = false ∧ pPt 6 s = [] ∧ pK3 6 s = m ∧ pOk 6 s = true := by
  have hd : pDot s = false := by unfold pDot; rw [h2, hd]; simp
  have e : (pWh s == []) = false := by
    have : pWh s ≠ [] := fun q => by rw [q] at h; simp at h
    simpa using this
  refine ⟨hd, by unfold pPt; rw [hd]; rfl, by unfold pK3; rw [hd]; exact h2, ?_⟩
  unfold pOk
  rw [hd, e]
  rfl
theorem rN_of {s wh pt : List UInt8} (h1 : pWh s = wh) (h2 : pPt 6 s = pt) (hl : pt.length ≤ 6) : nat (wh ++ (pt ++ List.replicate (6 - pt.length) 48)) = rN s := by
  unfold rN mv
  rw [h1, h2, if_pos (by omega), ← List.append_assoc, nat_append, nat_zeros, List.length_replicate]
  have : (0 - (pt.length : Int) + 6).toNat = 6 - pt.length := by omega
  rw [this]
  omega
end Go.Proofs.YtgjhbolnnnibkaaGreatDoor
set_option linter.unusedVariables false
set_option linter.unusedSimpArgs false
namespace Go.Proofs.YtgjhbolnnnibkaaGreatDoor
open Go.RowKit Go.Shelf
theorem Read_any (s : List UInt8) (w : World) (hs : s.length ≤ 4096) :
    Calls Tryz.prog 34 #[.string ⟨s.toArray⟩] w fun e w' => (∃ V E K, e = .returned (.tuple #[.int .i64 V, .int .i64 E, .int .i64 K]) ∧ RdA s V E K) ∧ Keep w w' := by
  by_cases hg : rGood s
  · refine (Read_good s w hs hg).mono ?_
    rintro e w' ⟨rfl, k⟩
    exact ⟨⟨_, _, _, rfl, RdA.of_good hg rfl rfl⟩, k⟩
  · refine (Read_bad s w hs hg).mono ?_
    rintro e w' ⟨rfl, k⟩
    exact ⟨⟨_, _, _, rfl, RdA.of_bad hg rfl⟩, k⟩
end Go.Proofs.YtgjhbolnnnibkaaGreatDoor
