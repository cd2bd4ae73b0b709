import Derived.Test.YtgjhbolnnnibkaaGreatDoorProg
import Derived.Test.YtgjhbolnnnibkaaGreatDoorFT10
import Derived.WalkKit
import Derived.WalkSpells
import Derived.WalkLawsBesides
import Derived.Deep.Draws
import Derived.Deep.QuietTactic
import Derived.Laws.Externs
import Derived.Shelf.Abstract
import Derived.Below
import Derived.Deep.RegionLaw
import Derived.Laws.CopyOwn
import Derived.BigRegion
import Derived.BigQuiet
import Derived.Deep.RegionHeld3
import Derived.Lib.Bytealg
import Derived.Laws.RangeString
import Derived.Laws.RangeAny
import Derived.Lib.OthersKept
import Derived.Deep.LoopGhost
import Derived.Shelf.Strings.Trim
import Derived.Shelf.Small.Strs
import Derived.Shelf.Strings.Search1
import Derived.Shelf.Strings.Repeat
set_option linter.unusedVariables false
set_option linter.unusedSimpArgs false
namespace Go.Proofs.YtgjhbolnnnibkaaGreatDoor
open Go.RowKit Go.Shelf
set_option maxRecDepth 100000 in
set_option maxHeartbeats 2000000 in
theorem told_bad (ng : Bool) (wh pt : List UInt8) (P : Int) (w : World) (s : List UInt8) (k : Nat) (ok : Bool) (hs : s.length ≤ 4096) (hk : k ≤ s.length) (hb : ok = false ∨ k < s.length) :
    Calls Tryz.prog 41 #[.agg (dcl ng wh pt P), .agg #[.string ⟨s.toArray⟩, .int .i64 (k : Int)], .bool ok] w fun e w' => e = .returned (.tuple #[.int .i64 0, .int .i64 40, .int .i64 (k : Int)]) ∧ Keep w w' := by
  have s1 : (ByteArray.mk s.toArray).size = s.length := sz_mk s
  obtain ⟨L, hL⟩ : ∃ L, s.length = L := ⟨_, rfl⟩
  rw [hL] at s1 hs hk hb
  unfold dcl
  rcases Bool.eq_false_or_eq_true ok with rfl | rfl
  · have hkl : k < L := by rcases hb with q | q; · cases q
                           · exact q
    clear hb
    go_enter Tryz.func41, Tryz.ntmps41
    go_wp2_with fail
    go_region
    go_wp2_with fail
    go_ret3
    exact ⟨rfl, (((Keep.refl w).alloc _).alloc _).drew⟩
  · clear hb
    go_enter Tryz.func41, Tryz.ntmps41
    go_wp2_with fail
    go_region
    go_wp2_with fail
    go_ret3
    exact ⟨rfl, (((Keep.refl w).alloc _).alloc _).drew⟩
set_option maxRecDepth 100000 in
set_option maxHeartbeats 2000000 in
theorem told_ok (ng : Bool) (wh pt : List UInt8) (P : Int) (w : World) (s : List UInt8) (hs : s.length ≤ 4096) (hl : wh.length + pt.length ≤ 4096) (hP : -1048576 ≤ P ∧ P ≤ 1048576) (hwd : allD wh) (hpd : allD pt) (N : Nat) (hN : mv (nat (wh ++ pt)) (P - pt.length + 6) = N) :
    Calls Tryz.prog 41 #[.agg (dcl ng wh pt P), .agg #[.string ⟨s.toArray⟩, .int .i64 (s.length : Int)], .bool true] w fun e w' => e = .returned (.tuple #[.int .i64 (sgV ng N), .int .i64 (sgE ng N), .int .i64 0]) ∧ Keep w w' := by
  have hM := fun wx => millionths_any ng wh pt P wx hl hP hwd hpd N hN
  have s1 : (ByteArray.mk s.toArray).size = s.length := sz_mk s
  obtain ⟨L, hL⟩ : ∃ L, s.length = L := ⟨_, rfl⟩
  rw [hL] at s1 hs ⊢
  unfold dcl at hM ⊢
  generalize sgV ng N = V at hM ⊢
  generalize sgE ng N = E at hM ⊢
  clear hN hl hwd hpd
  go_enter Tryz.func41, Tryz.ntmps41
  go_wp2_with (go_at_call 66; refine (hM _).mono ?_; rintro e w2 ⟨rfl, k2⟩)
  go_ret3
  exact ⟨rfl, (((Keep.refl w).alloc _).alloc _).trans k2⟩
end Go.Proofs.YtgjhbolnnnibkaaGreatDoor
set_option linter.unusedVariables false
set_option linter.unusedSimpArgs false
namespace Go.Proofs.YtgjhbolnnnibkaaGreatDoor
open Go.RowKit Go.Shelf
theorem keep_gro {a c : World} {b : Nat} (o : Obj) (h : (a.alloc o).grownBy c (some b)) (hb : b = a.heap.size) : Keep a c := by
  refine ⟨h.os, h.tape, h.output, ?_, ?_⟩
  · have := h.size; rw [World.size_alloc] at this; omega
  · intro k hk
    rw [h.block k (by rw [World.size_alloc]; omega) (by intro e; injection e with e; omega)]
    exact (((Keep.refl a).alloc o).block k hk)
theorem keep_gro2 {a c d : World} {b : Nat} (h : Keep a c) (g : c.grownBy d (some b)) (hb : a.heap.size ≤ b) : Keep a d := by
  refine ⟨g.os.trans h.os, g.tape.trans h.tape, g.output.trans h.output, Nat.le_trans h.size g.size, ?_⟩
  intro k hk
  rw [g.block k (Nat.lt_of_lt_of_le hk h.le) (by intro e; injection e with e; omega)]
  exact h.block k hk
set_option maxRecDepth 100000 in
set_option maxHeartbeats 2000000 in
theorem Read_of (s : List UInt8) (w : World) (hs : s.length ≤ 4096) (ng : Bool) (wh pt : List UInt8) (ok : Bool) (k : Nat) (V E K : Int)
    (hdec : ∀ wx b, Rr wx b s 0 → Calls Tryz.prog 39 #[.pointer (some ⟨b, 0, none⟩), .int .i64 6] wx fun e w' => e = .returned (.tuple #[.agg (dcl ng wh pt 0), .bool ok]) ∧ Rr w' b s k ∧ wx.grownBy w' (some b))
    (htold : ∀ wx, Calls Tryz.prog 41 #[.agg (dcl ng wh pt 0), .agg #[.string ⟨s.toArray⟩, .int .i64 (k : Int)], .bool ok] wx fun e w' => e = .returned (.tuple #[.int .i64 V, .int .i64 E, .int .i64 K]) ∧ Keep wx w') :
    Calls Tryz.prog 34 #[.string ⟨s.toArray⟩] w fun e w' => e = .returned (.tuple #[.int .i64 V, .int .i64 E, .int .i64 K]) ∧ Keep w w' := by
  have s1 : (ByteArray.mk s.toArray).size = s.length := sz_mk s
  obtain ⟨L, hL⟩ : ∃ L, s.length = L := ⟨_, rfl⟩
  rw [hL] at s1 hs
  unfold dcl at hdec htold
  have hd := hdec (w.alloc (.cells #[.string ⟨s.toArray⟩, .int .i64 0] 80)) w.heap.size (heap_alloc_new w _)
  clear hdec
  go_enter Tryz.func34, Tryz.ntmps34
  go_wp2_with (first
    | (go_at_call 39; refine hd.mono ?_; rintro e w2 ⟨rfl, r2, g2⟩; have c0 := (r2.alloc (.cells #[.bool ng, .string ⟨wh.toArray⟩, .string ⟨pt.toArray⟩, .int .i64 0] 82)).c0; have c1 := (r2.alloc (.cells #[.bool ng, .string ⟨wh.toArray⟩, .string ⟨pt.toArray⟩, .int .i64 0] 82)).c1; have K2 : Hid (Keep w w2) := keep_gro _ g2 rfl; clear r2 g2)
    | (go_at_call 41; refine (htold _).mono ?_; rintro e w3 ⟨rfl, k3⟩))
  go_ret3
  exact ⟨rfl, (K2.out.alloc _).trans k3⟩
set_option maxRecDepth 100000 in
set_option maxHeartbeats 2000000 in
theorem Rounded_bad (s : List UInt8) (w : World) (hs : s.length ≤ 4096) (ng : Bool) (wh pt : List UInt8) (k : Nat) (V E K : Int)
    (hdec : ∀ wx b, Rr wx b s 0 → Calls Tryz.prog 39 #[.pointer (some ⟨b, 0, none⟩), .int .i64 (s.length : Int)] wx fun e w' => e = .returned (.tuple #[.agg (dcl ng wh pt 0), .bool false]) ∧ Rr w' b s k ∧ wx.grownBy w' (some b))
    (htold : ∀ wx, Calls Tryz.prog 41 #[.agg (dcl ng wh pt 0), .agg #[.string ⟨s.toArray⟩, .int .i64 (k : Int)], .bool false] wx fun e w' => e = .returned (.tuple #[.int .i64 V, .int .i64 E, .int .i64 K]) ∧ Keep wx w') :
    Calls Tryz.prog 18 #[.string ⟨s.toArray⟩] w fun e w' => e = .returned (.tuple #[.int .i64 V, .int .i64 E, .int .i64 K]) ∧ Keep w w' := by
  have s1 : (ByteArray.mk s.toArray).size = s.length := sz_mk s
  obtain ⟨L, hL⟩ : ∃ L, s.length = L := ⟨_, rfl⟩
  rw [hL] at s1 hs hdec
  unfold dcl at hdec htold
  have hd := hdec (w.alloc (.cells #[.string ⟨s.toArray⟩, .int .i64 0] 80)) w.heap.size (heap_alloc_new w _)
  clear hdec
  go_enter Tryz.func18, Tryz.ntmps18
  go_wp2_with (first
    | (go_at_call 39; refine hd.mono ?_; rintro e w2 ⟨rfl, r2, g2⟩; have c0 := (r2.alloc (.cells #[.bool ng, .string ⟨wh.toArray⟩, .string ⟨pt.toArray⟩, .int .i64 0] 82)).c0; have c1 := (r2.alloc (.cells #[.bool ng, .string ⟨wh.toArray⟩, .string ⟨pt.toArray⟩, .int .i64 0] 82)).c1; have K2 : Hid (Keep w w2) := keep_gro _ g2 rfl; clear r2 g2)
    | (go_at_call 41; refine (htold _).mono ?_; rintro e w3 ⟨rfl, k3⟩))
  go_ret3
  exact ⟨rfl, (K2.out.alloc _).trans k3⟩
set_option maxRecDepth 100000 in
set_option maxHeartbeats 2000000 in
theorem Rounded_of (s : List UInt8) (w : World) (hs : s.length ≤ 4096) (ng : Bool) (wh pt : List UInt8) (P : Int) (ok : Bool) (k k' : Nat) (V E K : Int)
    (hdec : ∀ wx b, Rr wx b s 0 → Calls Tryz.prog 39 #[.pointer (some ⟨b, 0, none⟩), .int .i64 (s.length : Int)] wx fun e w' => e = .returned (.tuple #[.agg (dcl ng wh pt 0), .bool true]) ∧ Rr w' b s k ∧ wx.grownBy w' (some b))
    (hpow : ∀ wx b, Rr wx b s k → Calls Tryz.prog 40 #[.pointer (some ⟨b, 0, none⟩)] wx fun e w' => e = .returned (.tuple #[.int .i64 P, .bool ok]) ∧ Rr w' b s k' ∧ wx.grownBy w' (some b))
    (htold : ∀ wx, Calls Tryz.prog 41 #[.agg (dcl ng wh pt P), .agg #[.string ⟨s.toArray⟩, .int .i64 (k' : Int)], .bool ok] wx fun e w' => e = .returned (.tuple #[.int .i64 V, .int .i64 E, .int .i64 K]) ∧ Keep wx w') :
    Calls Tryz.prog 18 #[.string ⟨s.toArray⟩] w fun e w' => e = .returned (.tuple #[.int .i64 V, .int .i64 E, .int .i64 K]) ∧ Keep w w' := by
  have s1 : (ByteArray.mk s.toArray).size = s.length := sz_mk s
  obtain ⟨L, hL⟩ : ∃ L, s.length = L := ⟨_, rfl⟩
  rw [hL] at s1 hs hdec
  unfold dcl at hdec htold
  have hd := hdec (w.alloc (.cells #[.string ⟨s.toArray⟩, .int .i64 0] 80)) w.heap.size (heap_alloc_new w _)
  clear hdec
  go_enter Tryz.func18, Tryz.ntmps18
  go_wp2_with (first
    | (go_at_call 39; refine hd.mono ?_; rintro e w2 ⟨rfl, r2, g2⟩; have R2 : Hid (Rr w2 w.heap.size s k) := r2; have K2 : Hid (Keep w w2) := keep_gro _ g2 rfl; have B2 : Hid (w.heap.size < w2.heap.size) := r2.lt; clear r2 g2)
    | (go_at_call 40; refine (hpow _ _ (R2.out.alloc _)).mono ?_; rintro e w3 ⟨rfl, r3, g3⟩; have R3 : Hid (Rr w3 w.heap.size s k') := r3; have X3 : Hid (Bx w3 w2.heap.size #[.bool ng, .string ⟨wh.toArray⟩, .string ⟨pt.toArray⟩, .int .i64 0]) := ((g3.block w2.heap.size (by rw [World.size_alloc]; omega) (by intro e; injection e with e; have := B2.out; omega)).trans (Bx.new w2 _)); have K3 : Hid (Keep w w3) := keep_gro2 (K2.out.alloc _) g3 (Nat.le_refl _); have f3 := X3.out.frozen 3; have e3 : w3.cell? ⟨w2.heap.size, 3, none⟩ = some (.int .i64 0) := X3.out.cell 3; have X4 := X3.out.set (j := 3) (.int .i64 P); have R4 := R3.out.other (j := 3) (g := w2.heap.size) (by have := B2.out; omega) (.int .i64 P); have c0 := R4.c0; have c1 := R4.c1; have y0 := X4.cell 0; have y1 := X4.cell 1; have y2 := X4.cell 2; have y3 := X4.cell 3; have K4 : Hid (Keep w (w3.setCell ⟨w2.heap.size, 3, none⟩ (.int .i64 P))) := K3.out.setCell (by show w.heap.size ≤ w2.heap.size; have := B2.out; omega) _; simp only [List.setIfInBounds_toArray, List.set, List.set_cons_succ, List.set_cons_zero] at y0 y1 y2 y3; clear X4 R4 r3 g3 R3 X3 K3)
    | (go_at_call 41; refine (htold _).mono ?_; rintro e w5 ⟨rfl, k5⟩))
  go_ret3
  exact ⟨rfl, K4.out.trans k5⟩
end Go.Proofs.YtgjhbolnnnibkaaGreatDoor
