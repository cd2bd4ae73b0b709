import Derived.Test.YtgjhbolnnnibkaaGreatDoorProg
import Derived.Test.YtgjhbolnnnibkaaGreatDoorFT3
import Derived.WalkKit
import Derived.WalkSpells
import Derived.WalkLawsBesides
import Derived.Deep.Draws
import Derived.Deep.QuietTactic
import Derived.Laws.Externs
import Derived.Shelf.Abstract
import Derived.Below
import Derived.Deep.RegionLaw
import Derived.Laws.CopyOwn
import Derived.BigRegion
import Derived.BigQuiet
import Derived.Deep.RegionHeld3
import Derived.Lib.Bytealg
set_option linter.unusedVariables false
set_option linter.unusedSimpArgs false
namespace Go.Proofs.YtgjhbolnnnibkaaGreatDoor
open Go.RowKit Go.Shelf
theorem Oth.grown {b : Nat} {w w' : World} (h : Oth b w w') : w.grownBy w' (some b) := ⟨h.os, h.tape, h.output, by rw [h.size]; exact Nat.le_refl _, fun k _ hne => h.block k (fun e => hne (by rw [e]))⟩
theorem gro_trans {b : Nat} {a c d : World} (h : a.grownBy c (some b)) (k : c.grownBy d (some b)) : a.grownBy d (some b) := ⟨k.os.trans h.os, k.tape.trans h.tape, k.output.trans h.output, Nat.le_trans h.size k.size, fun j hj hne => (k.block j (Nat.lt_of_lt_of_le hj h.size) hne).trans (h.block j hj hne)⟩
theorem gro_alloc {b : Nat} {a c : World} (h : a.grownBy c (some b)) (o : Obj) : a.grownBy (c.alloc o) (some b) := gro_trans h (World.grownBy_alloc c o _)
theorem gro_set {b g j : Nat} {a c : World} (h : a.grownBy c (some b)) (hg : a.heap.size ≤ g) (v : Value) : a.grownBy (c.setCell ⟨g, j, none⟩ v) (some b) := ⟨h.os, h.tape, h.output, by rw [World.size_setCell]; exact h.size, fun k hk hne => (Below.heap_setCell _ _ _ _ (by simp; omega)).trans (h.block k hk hne)⟩
theorem gro_drew {b : Nat} {a c : World} (h : a.grownBy c (some b)) (n : Nat) : a.grownBy (c.drewN n) (some b) := ⟨h.os, h.tape, h.output, h.size, h.block⟩
theorem Rr.alloc {w : World} {b k : Nat} {s : List UInt8} (h : Rr w b s k) (o : Obj) : Rr (w.alloc o) b s k := ((Keep.refl w).alloc o).at h
theorem Rr.other {w : World} {b k g j : Nat} {s : List UInt8} (h : Rr w b s k) (hne : b ≠ g) (v : Value) : Rr (w.setCell ⟨g, j, none⟩ v) b s k := by
  unfold Rr
  rw [Below.heap_setCell _ _ _ _ (by simpa using hne)]
  exact h
/-- A box of four. -/
def Bx (w : World) (g : Nat) (v : Array Value) : Prop := w.heap[g]? = some (.cells v 82 (0, 0))
theorem Bx.new (w : World) (v : Array Value) : Bx (w.alloc (.cells v 82)) w.heap.size v := heap_alloc_new w _
theorem Bx.oth {b g : Nat} {w w' : World} {v : Array Value} (h : Bx w g v) (o : Oth b w w') (hne : g ≠ b) : Bx w' g v := by unfold Bx; rw [o.block g hne]; exact h
theorem Bx.set {w : World} {g j : Nat} {v : Array Value} (h : Bx w g v) (u : Value) : Bx (w.setCell ⟨g, j, none⟩ u) g (v.setIfInBounds j u) := heap_setCell_same w g j v 82 u h
theorem Bx.cell {w : World} {g : Nat} {v : Array Value} (h : Bx w g v) (j : Nat) : w.cell? ⟨g, j, none⟩ = v[j]? := cell_of_row w g j v 82 (0, 0) h
theorem Bx.frozen {w : World} {g : Nat} {v : Array Value} (h : Bx w g v) (j : Nat) : w.frozen? ⟨g, j, none⟩ = false := frozen_of_row w g j v 82 h
theorem Bx.lt {w : World} {g : Nat} {v : Array Value} (h : Bx w g v) : g < w.heap.size := (Array.getElem?_eq_some_iff.1 h).1
theorem Bx.alloc {w : World} {g : Nat} {v : Array Value} (h : Bx w g v) (o : Obj) : Bx (w.alloc o) g v := ((Keep.refl w).alloc o).at h
theorem Bx.other {w : World} {g k j : Nat} {v : Array Value} (h : Bx w g v) (hne : g ≠ k) (u : Value) : Bx (w.setCell ⟨k, j, none⟩ u) g v := by
  unfold Bx
  rw [Below.heap_setCell _ _ _ _ (by simpa using hne)]
  exact h
theorem results_box4 {fn : Func} {t u : Tmp} (h : fn.results = #[.cell t 82, .tmp u]) (tmps : Array Value) (w : World) (g : Nat) (v0 v1 v2 v3 : Value) (hp : tmps.getD t undef = .pointer (some ⟨g, 0, none⟩)) (hh : Bx w g #[v0, v1, v2, v3]) :
    (results fn tmps).run Tryz.prog w = .ok (.tuple #[.agg #[v0, v1, v2, v3], tmps.getD u undef]) w := by
  have c0 := hh.cell 0
  have c1 := hh.cell 1
  have c2 := hh.cell 2
  have c3 := hh.cell 3
  simp only [List.getElem?_toArray, List.getElem?_cons_zero, List.getElem?_cons_succ] at c0 c1 c2 c3
  have hp' : (tmps[t]?).getD undef = .pointer (some ⟨g, 0, none⟩) := by simpa using hp
  simp [results, h, hp, hp', go_sem, c0, c1, c2, c3]
theorem put4 {w0 w : World} {b g k : Nat} {s : List UInt8} {u0 u1 u2 u3 : Value} (h : Bx w g #[u0, u1, u2, u3]) (hr : Rr w b s k) (hne : b ≠ g) (hg : w0.heap.size ≤ g) (gr : w0.grownBy w (some b)) (v0 v1 v2 v3 : Value) :
    Bx (((((w.setCell ⟨g, 0, none⟩ v0).setCell ⟨g, 1, none⟩ v1).setCell ⟨g, 2, none⟩ v2).setCell ⟨g, 3, none⟩ v3).drew) g #[v0, v1, v2, v3] ∧ Rr (((((w.setCell ⟨g, 0, none⟩ v0).setCell ⟨g, 1, none⟩ v1).setCell ⟨g, 2, none⟩ v2).setCell ⟨g, 3, none⟩ v3).drew) b s k ∧ w0.grownBy (((((w.setCell ⟨g, 0, none⟩ v0).setCell ⟨g, 1, none⟩ v1).setCell ⟨g, 2, none⟩ v2).setCell ⟨g, 3, none⟩ v3).drew) (some b) := by
  refine ⟨?_, ?_, ?_⟩
  · have := (((h.set (j := 0) v0).set (j := 1) v1).set (j := 2) v2).set (j := 3) v3
    exact this
  · exact (((hr.other hne (j := 0) v0).other hne (j := 1) v1).other hne (j := 2) v2).other hne (j := 3) v3
  · exact gro_drew (gro_set (gro_set (gro_set (gro_set gr hg v0) hg v1) hg v2) hg v3) 1
abbrev dcl (ng : Bool) (wh pt : List UInt8) (p : Int) : Array Value := #[.bool ng, .string ⟨wh.toArray⟩, .string ⟨pt.toArray⟩, .int .i64 p]
set_option maxRecDepth 100000 in
set_option maxHeartbeats 2000000 in
theorem decimal_none (hI : IxC) (b most : Nat) (s : List UInt8) (w : World) (hs : s.length ≤ 4096) (hm : most ≤ 4096) (h : Rr w b s 0) (ng : Bool) (k1 k2 : Nat) (hng : tk s [45] 0 = ng) (hk1 : (if ng then 1 else 0) = k1) (hk2 : k1 + (dg s k1 s.length).length = k2) (hwh : dg s k1 s.length = []) :
    Calls Tryz.prog 39 #[.pointer (some ⟨b, 0, none⟩), .int .i64 (most : Int)] w fun e w' => e = .returned (.tuple #[.agg (dcl ng [] [] 0), .bool false]) ∧ Rr w' b s k2 ∧ w.grownBy w' (some b) := by
  have hT := fun wx (hx : Rr wx b s 0) => takes_any b 0 s [45] wx hs (by omega) hx (fun c wy => hI [45] c wy)
  have hk1s : k1 ≤ s.length := by
    rw [← hk1]
    cases ng with
    | false => simp
    | true =>
      have := of_decide_eq_true hng
      simp
      omega
  rw [hng] at hT
  have e0 : (if ng = true then 0 + 1 else 0) = k1 := by rw [← hk1]
  rw [e0] at hT
  have hD := fun wx (hx : Rr wx b s k1) => digits_any hI b k1 s.length s wx hs hk1s hs hx
  rw [hk2] at hD
  have hsz : (ByteArray.mk s.toArray).size = s.length := sz_mk s
  have hk2s : k2 ≤ s.length := by have := dg_le s k1 s.length; omega
  rw [hwh] at hD
  obtain ⟨L, hL⟩ : ∃ L, s.length = L := ⟨_, rfl⟩
  rw [hL] at hD hsz
  have HR : Hid (Rr w b s 0) := h
  have HB : Hid (b < w.heap.size) := h.lt
  have t1 : True := trivial
  have t2 : True := trivial
  clear hng hk1 hwh h e0 hL hk2
  go_enter Tryz.func39, Tryz.ntmps39
  go_wp2_with (first
    | (go_at_call 64; clear t1; refine (hT _ (HR.out.alloc _)).mono ?_; rintro e w2 ⟨rfl, r2, o2⟩; have hb2 : b < w2.heap.size := r2.lt; have c02 := r2.c0; have R2 : Hid (Rr w2 b s k1) := r2; have X2 : Hid (Bx w2 w.heap.size (dcl false [] [] 0)) := (Bx.new w _).oth o2 (by have := HB.out; omega); have G2 : Hid (w.grownBy w2 (some b)) := gro_trans (World.grownBy_alloc w _ _) o2.grown; have S2 : Hid (w2.heap.size = w.heap.size + 1) := (by have := o2.size; rw [World.size_alloc] at this; exact this); clear r2 o2)
    | (go_at_call 65; clear t2; refine (hD _ (R2.out.alloc _)).mono ?_; rintro e w3 ⟨rfl, r3, o3⟩; have R3 : Hid (Rr w3 b s k2) := r3; have X3 : Hid (Bx w3 w.heap.size (dcl false [] [] 0)) := (X2.out.alloc _).oth o3 (by have := HB.out; omega); have Y3 : Hid (Bx w3 w2.heap.size (dcl ng [] [] 0)) := (Bx.new w2 _).oth o3 (by omega); have G3 : Hid (w.grownBy w3 (some b)) := gro_trans (gro_alloc G2.out _) o3.grown; have y0 := Y3.out.cell 0; have y1 := Y3.out.cell 1; have y2 := Y3.out.cell 2; have y3 := Y3.out.cell 3; have fy := Y3.out.frozen 1; have hne : b ≠ w2.heap.size := (by omega); have hne2 : w.heap.size ≠ w2.heap.size := (by have := S2.out; omega); have R4 : Hid (Rr (w3.setCell ⟨w2.heap.size, 1, none⟩ (.string ⟨#[]⟩)) b s k2) := R3.out.other hne _; have X4 : Hid (Bx (w3.setCell ⟨w2.heap.size, 1, none⟩ (.string ⟨#[]⟩)) w.heap.size (dcl false [] [] 0)) := X3.out.other hne2 _; have Y4 : Hid (Bx (w3.setCell ⟨w2.heap.size, 1, none⟩ (.string ⟨#[]⟩)) w2.heap.size #[.bool ng, .string ⟨#[]⟩, .string ⟨#[]⟩, .int .i64 0]) := Y3.out.set _; have G4 : Hid (w.grownBy (w3.setCell ⟨w2.heap.size, 1, none⟩ (.string ⟨#[]⟩)) (some b)) := gro_set G3.out (by have := S2.out; omega) _; clear r3 o3))
  have Y := Y4.out
  have X := X4.out
  have R := R4.out
  have G := G4.out
  generalize w3.setCell ⟨w2.heap.size, 1, none⟩ (.string ⟨#[]⟩) = w4 at Y X R G ⊢
  clear y0 y1 y2 y3 fy Y4 X4 R4 G4
  have z0 := Y.cell 0
  have z1 := Y.cell 1
  have z2 := Y.cell 2
  have z3 := Y.cell 3
  have x0 := X.cell 0
  have x1 := X.cell 1
  have x2 := X.cell 2
  have x3 := X.cell 3
  have u0 := X.frozen 0
  have u1 := X.frozen 1
  have u2 := X.frozen 2
  have u3 := X.frozen 3
  have hbg : b ≠ w.heap.size := by have := HB.out; omega
  have QQ : Hid (∀ v0 v1 v2 v3, _) := fun v0 v1 v2 v3 => put4 X R hbg (Nat.le_refl _) G v0 v1 v2 v3
  clear X R G Y
  go_region
  go_wp2_with fail
  obtain ⟨p1, p2, p3⟩ := QQ.out (.bool ng) (.string ⟨#[]⟩) (.string ⟨#[]⟩) (.int .i64 0)
  exact bodyPost_ret (results_box4 rfl _ _ w.heap.size _ _ _ _ rfl p1) rfl ⟨rfl, p2, p3⟩
end Go.Proofs.YtgjhbolnnnibkaaGreatDoor
