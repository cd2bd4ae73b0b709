import Derived.Test.YtinjikoocegooaaGreatDoorProg
import Derived.Test.YtinjikoocegooaaGreatDoorF1
import Derived.WalkKit
import Derived.WalkSpells
import Derived.WalkLawsBesides
import Derived.Deep.Draws
import Derived.Deep.QuietTactic
import Derived.BigQuiet
import Derived.Laws.Externs
import Derived.Laws.CopyOwn
import Derived.Shelf.Abstract
import Derived.Deep.RegionLaw
import Derived.BigRegion
import Derived.Deep.RegionHeld3
import Derived.Maps.OwnSet
import Derived.StringKeys
import Derived.Test.YtinjikoocegooaaGreatDoorE1
import Derived.Test.YtinjikoocegooaaGreatDoorYS5
import Derived.RangeFuncBox
import Derived.RangeFuncLeaves
import Derived.RangeFuncCalls
import Derived.RangeFuncRecord
import Derived.Below
import Derived.OwnWalkIn
import Derived.TacticsInMore
import Derived.LoopNIn
import Derived.LoopIn
import Derived.Sort.LoopGhostIn
import Derived.Deep.RegionWith
import Derived.Stop.RegionWithIn
import Derived.RegionTactic
import Derived.Orders
import Derived.OrdersIn
import Derived.RegionIn
set_option linter.unusedVariables false
set_option linter.unusedSimpArgs false
namespace Go.Proofs.YtinjikoocegooaaGreatDoor
open Go.RowKit Go.Shelf Go.Maps
theorem run_makeMapN (n : Int) (w : World) : (Instr.makeMap 104 (some (.int .i64 n))).run Tryz.prog w = .ok (.map (some w.heap.size)) (w.alloc (.map #[] 0)) := by
  simp [Instr.makeMap, asInt, run_underlying Tryz.underlying104]
  rfl
theorem K9 : Keyed Tryz.prog 9 := string_keyed Tryz.underlying9
theorem key9 {s : ByteArray} (hs : s.size ≤ 281474976710656) : keyOf Tryz.prog 9 (.string s) = some (.string s.data.toList) := WideMaps.keyOf_string_mk Tryz.underlying9 (by simp only [maxLen]; omega)
theorem lit_ne {s s' : ByteArray} (h : s ≠ s') : Lit.string s.data.toList ≠ Lit.string s'.data.toList := by
  intro e
  simp only [Lit.string.injEq] at e
  exact h (ByteArray.ext (Array.toList_inj.mp e))
theorem zero101 (w : World) : (zeroValue 105).run Tryz.prog w = .ok (.agg #[]) w := by kernel_rfl
theorem zero3 (w : World) : (zeroValue 3).run Tryz.prog w = .ok (.int .i64 0) w := by kernel_rfl
/-- Is a text among some? -/
def inSet (s : ByteArray) (l : List ByteArray) : Bool := l.any fun x => decide (x = s)
/-- A set of texts. -/
def SetM (w : World) (b n : Nat) (l : List ByteArray) : Prop := ∃ D : DataW Unit, w.ownsMap Tryz.prog 9 unitElem b n D ∧ ∀ s : ByteArray, Maps.has D (.string s.data.toList) = inSet s l
theorem SetM.made (w : World) : SetM (w.alloc (.map #[] 0)) w.heap.size 0 [] := ⟨.map [], World.ownsMap_made _ _ _ _, fun s => rfl⟩
theorem SetM.same {w w' : World} {b n : Nat} {l : List ByteArray} (h : SetM w b n l) (e : w'.heap[b]? = w.heap[b]?) : SetM w' b n l := by
  obtain ⟨D, ⟨es, clock, hb, r⟩, hh⟩ := h
  exact ⟨D, ⟨es, clock, e.trans hb, r⟩, hh⟩
theorem SetM.lt {w : World} {b n : Nat} {l : List ByteArray} (h : SetM w b n l) : b < w.heap.size := by
  obtain ⟨D, h1, -⟩ := h
  exact h1.lt
theorem SetM.keep {w w' : World} {b n : Nat} {l : List ByteArray} (h : SetM w b n l) (k : Keep w w') : SetM w' b n l := h.same (k.block b h.lt)
theorem SetM.look {w : World} {b n : Nat} {l : List ByteArray} (h : SetM w b n l) {s : ByteArray} (hs : s.size ≤ 281474976710656) : (Instr.lookup 104 (.map (some b)) (.string s) true).run Tryz.prog w = .ok (.tuple #[.agg #[], .bool (inSet s l)]) w := by
  obtain ⟨D, h1, hh⟩ := h
  obtain ⟨v, ps, hrun, hv⟩ := h1.look_ok K9 Tryz.underlying104 (zero101 w) unitElem_mk (key9 hs)
  obtain ⟨rfl, -⟩ := unitElem_inv hv
  rw [hrun, hh s]
theorem SetM.put {w : World} {b n : Nat} {l : List ByteArray} (h : SetM w b n l) (hn : n ≤ 281474976710656) {s : ByteArray} (hs : s.size ≤ 281474976710656) : ∃ w', (Instr.mapUpdate 104 (.map (some b)) (.string s) (.agg #[])).run Tryz.prog w = .ok () w' ∧ SetM w' b (n + 1) (s :: l) ∧ w.grownBy w' (some b) := by
  obtain ⟨D, h1, hh⟩ := h
  have hm := h1.isMap
  obtain ⟨w', hrun, h2, h3⟩ := h1.update K9 Tryz.underlying104 (by simp only [maxLen]; omega) (key9 hs) unitElem_mk
  refine ⟨w', hrun, ⟨_, h2, fun s' => ?_⟩, h3⟩
  by_cases e : s = s'
  · subst e
    rw [has_put_same hm (k := .string s.data.toList) (show WideAt.IsKeyLit (.string s.data.toList) from trivial)]
    simp [inSet]
  · rw [has_put_other (lit_ne (Ne.symm e)), hh s']
    have e' : inSet s' (s :: l) = inSet s' l := by unfold inSet; rw [List.any_cons, decide_eq_false e, Bool.false_or]
    rw [e']
/-- Texts that stand in a map as 1. -/
def CntM (w : World) (b n : Nat) (l : List ByteArray) : Prop := ∃ D : DataW Unit, w.ownsMap Tryz.prog 9 (plainElem Tryz.prog 3) b n D ∧ ∀ s : ByteArray, D.atKey (.string s.data.toList) (.lit (.int .i64 0)) = .lit (.int .i64 (if inSet s l = true then 1 else 0))
theorem CntM.made (w : World) : CntM (w.alloc (.map #[] 0)) w.heap.size 0 [] := ⟨.map [], World.ownsMap_made _ _ _ _, fun s => rfl⟩
theorem CntM.same {w w' : World} {b n : Nat} {l : List ByteArray} (h : CntM w b n l) (e : w'.heap[b]? = w.heap[b]?) : CntM w' b n l := by
  obtain ⟨D, ⟨es, clock, hb, r⟩, hh⟩ := h
  exact ⟨D, ⟨es, clock, e.trans hb, r⟩, hh⟩
theorem CntM.lt {w : World} {b n : Nat} {l : List ByteArray} (h : CntM w b n l) : b < w.heap.size := by
  obtain ⟨D, h1, -⟩ := h
  exact h1.lt
end Go.Proofs.YtinjikoocegooaaGreatDoor
set_option linter.unusedVariables false
set_option linter.unusedSimpArgs false
namespace Go.Proofs.YtinjikoocegooaaGreatDoor
open Go.RowKit Go.Shelf Go.Maps
theorem ft1_ans {w : World} {g : Nat} {s : ByteArray} (h : w.heap[g]? = some (.cells #[.string s] 9 (0, 0))) (hT : Kt w) (hs : s.size ≤ 281474976710656) : Ans w (3, 59, #[pv g]) (nameB s) := by
  refine ⟨fun wx => by kernel_rfl, fun wx k => ?_⟩
  obtain ⟨c0, -⟩ := cells1 (k.at h)
  have N := Name_any s wx (hT.keep k) hs
  show Calls Tryz.prog 59 #[.pointer (some ⟨g, 0, none⟩)] wx _
  go_enter Tryz.func59, Tryz.ntmps59
  go_wp2_with (go_at_call 56; refine N.mono ?_; rintro e w0 ⟨rfl, rfl⟩)
  go_ret
  exact ⟨rfl, Keep.refl _⟩
theorem ft2_ans {w : World} {g ga m n : Nat} {s : ByteArray} {l : List ByteArray} (h : w.heap[g]? = some (.cells #[.string s] 9 (0, 0))) (ha : w.heap[ga]? = some (.cells #[.map (some m)] 104 (0, 0))) (hm : SetM w m n l) (hs : s.size ≤ 281474976710656) : Ans w (4, 60, #[pv ga, pv g]) (!inSet s l) := by
  refine ⟨fun wx => by kernel_rfl, fun wx k => ?_⟩
  obtain ⟨c0, -⟩ := cells1 (k.at h)
  obtain ⟨c1, -⟩ := cells1 (k.at ha)
  have L := (hm.keep k).look hs
  have kA : Keep wx (wx.alloc (.cells #[] 105)) := (Keep.refl wx).alloc _
  show Calls Tryz.prog 60 #[.pointer (some ⟨ga, 0, none⟩), .pointer (some ⟨g, 0, none⟩)] wx _
  go_enter Tryz.func60, Tryz.ntmps60
  go_wp2_with fail
  go_ret
  exact ⟨rfl, kA⟩
/-- The features' names ahead of one. -/
def sn (fs : List ByteArray) : Nat → List ByteArray
  | 0 => []
  | k + 1 => fs.getD k ByteArray.empty :: sn fs k
/-- The features' rules, one by one. -/
def ftF (fs : List ByteArray) : Nat → Nat → Bk
  | 0, _ => (0, 0, 0)
  | f + 1, k => if nameB (fs.getD k ByteArray.empty) = true then (if inSet (fs.getD k ByteArray.empty) (sn fs k) = true then (4, -1, (k : Int)) else ftF fs f (k + 1)) else (3, -1, (k : Int))
def ftB (fs : List ByteArray) : Bk := ftF fs fs.length 0
structure FIt (w wr : World) (cs : Array Value) (fs : List ByteArray) (k : Nat) : Prop where
  kp : Keep w wr
  b0 : wr.heap[w.heap.size]? = some (.cells cs 26 (0, 0))
  b1 : wr.heap[w.heap.size + 1]? = some (.cells #[.int .i64 0, .int .i64 0, .int .i64 0] 58 (0, 0))
  b2 : ∃ v, wr.heap[w.heap.size + 1 + 1]? = some (.cells #[v] 9 (0, 0))
  b3 : SetM wr (w.heap.size + 1 + 1 + 1) k (sn fs k)
  b4 : wr.heap[w.heap.size + 1 + 1 + 1 + 1]? = some (.cells #[.map (some (w.heap.size + 1 + 1 + 1))] 104 (0, 0))
  b5 : wr.heap[w.heap.size + 1 + 1 + 1 + 1 + 1]? = some (.cells #[.int .i64 3, .func (.func 59) #[] #[pv (w.heap.size + 1 + 1)], .int .i64 4, .func (.func 60) #[] #[pv (w.heap.size + 1 + 1 + 1 + 1), pv (w.heap.size + 1 + 1)]] 101 (0, 0))
/-- A name is laid into its variable. -/
theorem FIt.name {w wr : World} {cs : Array Value} {fs : List ByteArray} {k : Nat} (h : FIt w wr cs fs k) (s : ByteArray) : FIt w (wr.setCell ⟨w.heap.size + 1 + 1, 0, none⟩ (.string s)) cs fs k ∧ (wr.setCell ⟨w.heap.size + 1 + 1, 0, none⟩ (.string s)).heap[w.heap.size + 1 + 1]? = some (.cells #[.string s] 9 (0, 0)) := by
  have e := neq_set wr (w.heap.size + 1 + 1) 0 (.string s)
  obtain ⟨v, hv⟩ := h.b2
  have hn := heap1 wr _ (.string s) hv
  exact ⟨⟨h.kp.setCell (p := ⟨w.heap.size + 1 + 1, 0, none⟩) (by show w.heap.size ≤ w.heap.size + 1 + 1; omega) _, (e _ (by omega)).trans h.b0, (e _ (by omega)).trans h.b1, ⟨_, hn⟩, h.b3.same (e _ (by omega)), (e _ (by omega)).trans h.b4, (e _ (by omega)).trans h.b5⟩, hn⟩
theorem FIt.keep {w wr w' : World} {cs : Array Value} {fs : List ByteArray} {k : Nat} (h : FIt w wr cs fs k) (q : Keep wr w') : FIt w w' cs fs k := by
  obtain ⟨v, hv⟩ := h.b2
  exact ⟨h.kp.trans q, q.at h.b0, q.at h.b1, ⟨v, q.at hv⟩, h.b3.keep q, q.at h.b4, q.at h.b5⟩
theorem FIt.put {w wr w' : World} {cs : Array Value} {fs : List ByteArray} {k : Nat} (h : FIt w wr cs fs k) (hs : SetM w' (w.heap.size + 1 + 1 + 1) (k + 1) (sn fs (k + 1))) (hg : wr.grownBy w' (some (w.heap.size + 1 + 1 + 1))) : FIt w w' cs fs (k + 1) := by
  obtain ⟨v, hv⟩ := h.b2
  have e : ∀ i, i < wr.heap.size → i ≠ w.heap.size + 1 + 1 + 1 → w'.heap[i]? = wr.heap[i]? := fun i h1 h2 => hg.block i h1 (by simpa using h2)
  exact ⟨Below.grown h.kp hg h.kp.size (fun j hj => by cases hj; omega), (e _ (lt_of_at h.b0) (by omega)).trans h.b0, (e _ (lt_of_at h.b1) (by omega)).trans h.b1, ⟨v, (e _ (lt_of_at hv) (by omega)).trans hv⟩, hs, (e _ (lt_of_at h.b4) (by omega)).trans h.b4, (e _ (lt_of_at h.b5) (by omega)).trans h.b5⟩
end Go.Proofs.YtinjikoocegooaaGreatDoor
set_option linter.unusedVariables false
set_option linter.unusedSimpArgs false
namespace Go.Proofs.YtinjikoocegooaaGreatDoor
open Go.RowKit Go.Shelf Go.Maps
attribute [local go_sem] run_store_func
set_option maxRecDepth 100000 in
set_option maxHeartbeats 2000000 in
theorem ofFeatures_any (nm : ByteArray) (fa : Option Addr) (fs : List ByteArray) (cf : Nat) (N : Int) (ba : Option Addr) (bl cb : Nat) (ta : Option Addr) (tl ct : Nat) (w : World) (hT : Kt w) (hf : RdS w fa fs) (hfl : fs.length ≤ 65536) (hfz : ∀ j, j < fs.length → (fs.getD j ByteArray.empty).size ≤ 281474976710656) :
    Calls Tryz.prog 37 #[.agg (ev nm fa fs.length cf N ba bl cb ta tl ct)] w fun e w' => e = .returned (bkV (ftB fs)) ∧ Keep w w' := by
  have HB : Hid (ftB fs = ftF fs fs.length 0) := rfl
  generalize ftB fs = B at HB ⊢
  have hmk := run_makeMapN (fs.length : Int)
  obtain ⟨cs, hcs⟩ : ∃ cs, cs = ev nm fa fs.length cf N ba bl cb ta tl ct := ⟨_, rfl⟩
  obtain ⟨w1, hw1, k1, t1, s1⟩ := boxed w (ev nm fa fs.length cf N ba bl cb ta tl ct) 26
  obtain ⟨w2, hw2, k2, t2, s2⟩ := boxed w1 #[.int .i64 0, .int .i64 0, .int .i64 0] 58
  obtain ⟨w3, hw3, k3, t3, s3⟩ := boxed w2 #[.string ⟨#[]⟩] 9
  obtain ⟨w4, hw4, k4, t4, s4⟩ : ∃ w4, w3.alloc (.map #[] 0) = w4 ∧ Keep w3 w4 ∧ SetM w4 w3.heap.size 0 [] ∧ w4.heap.size = w3.heap.size + 1 := ⟨_, rfl, (Keep.refl _).alloc _, SetM.made w3, by simp⟩
  rw [s1] at t2 s2
  rw [s2] at t3 s3
  rw [s3] at t4 s4
  obtain ⟨w5, hw5, k5, t5, s5⟩ := boxed w4 #[.map (some (w.heap.size + 1 + 1 + 1))] 104
  rw [s4] at t5 s5
  obtain ⟨w6, hw6, k6, t6, s6⟩ := boxed w5 #[.int .i64 3, .func (.func 59) #[] #[pv (w.heap.size + 1 + 1)], .int .i64 4, .func (.func 60) #[] #[pv (w.heap.size + 1 + 1 + 1 + 1), pv (w.heap.size + 1 + 1)]] 101
  rw [s5] at t6 s6
  have k16 := k2.trans (k3.trans (k4.trans (k5.trans k6)))
  have k26 := k3.trans (k4.trans (k5.trans k6))
  have k36 := k4.trans (k5.trans k6)
  have k46 := k5.trans k6
  have hI : FIt w w6 (ev nm fa fs.length cf N ba bl cb ta tl ct) fs 0 := ⟨k1.trans k16, k16.at t1, k26.at t2, ⟨_, k36.at t3⟩, t4.keep k46, k6.at t5, t6⟩
  obtain ⟨z0, z1, z2, z3, z4⟩ := cells5 t1
  have y1 := (k2.trans k3).cell z1
  have y2 := k16.cell z1
  clear t2 t3 t4 t5 t6 k36 k46 hcs
  replace hI : Hid _ := hI
  go_enter Tryz.func37, Tryz.ntmps37
  go_wp2_with (first | rw [hw1] | rw [hw2] | rw [hw3] | rw [hw4])
  clear y1 y2 z0 z1 z2 z3 z4
  go_loopw [20] (fun i wr => ∃ k : Nat, i = .int .i64 (k : Int) ∧ k ≤ fs.length ∧ Hid (B = ftF fs (fs.length - k) k) ∧ Hid (FIt w wr (ev nm fa fs.length cf N ba bl cb ta tl ct) fs k)) (fun i wr => fs.length - (intOf i).toNat)
  case atStart => exact ⟨0, rfl, by omega, HB, hI⟩
  case round =>
    obtain ⟨k, rfl, hk, H, I⟩ := hrel
    by_cases hlt : k < fs.length
    · have hltc : (k : Int) < (fs.length : Int) := by omega
      have hz := hfz k hlt
      obtain ⟨b, o, rfl, x0⟩ := (hf.keep I.out.kp) k hlt
      obtain ⟨v2, hv2⟩ := I.out.b2
      obtain ⟨-, f2⟩ := cells1 hv2
      obtain ⟨d2, -⟩ := cells1 hv2
      obtain ⟨-, e1, -, -, -⟩ := cells5 I.out.b0
      have H1 : Hid (ftF fs (fs.length - k) k = if nameB (fs.getD k ByteArray.empty) = true then (if inSet (fs.getD k ByteArray.empty) (sn fs k) = true then (4, -1, (k : Int)) else ftF fs (fs.length - (k + 1)) (k + 1)) else (3, -1, (k : Int))) := by
        rw [show fs.length - k = (fs.length - (k + 1)) + 1 by omega, ftF]; rfl
      have HS : Hid (sn fs (k + 1) = fs.getD k ByteArray.empty :: sn fs k) := rfl
      have HK : Hid (k < fs.length) := hlt
      clear hlt
      generalize fs.getD k ByteArray.empty = s at x0 H1 hz HS
      obtain ⟨I7, n7⟩ := I.out.name s
      obtain ⟨w7, hw7⟩ : ∃ w7, wr.setCell ⟨w.heap.size + 1 + 1, 0, none⟩ (.string s) = w7 := ⟨_, rfl⟩
      rw [hw7] at I7 n7
      have hR : RdR w7 (some ⟨w.heap.size + 1 + 1 + 1 + 1 + 1, 0, none⟩) [(3, 59, #[pv (w.heap.size + 1 + 1)]), (4, 60, #[pv (w.heap.size + 1 + 1 + 1 + 1), pv (w.heap.size + 1 + 1)])] := rdR_of I7.b5 (by
        intro j hj
        match j, hj with
        | 0, _ => exact ⟨rfl, rfl⟩
        | 1, _ => exact ⟨rfl, rfl⟩)
      have hF := first_any (some ⟨w.heap.size + 1 + 1 + 1 + 1 + 1, 0, none⟩) 2 _ (bsl [nameB s, !inSet s (sn fs k)]) (-1) (k : Int) w7 hR (by simp) (by
        intro j hj
        match j, hj with
        | 0, _ => exact ft1_ans n7 (hT.keep I7.kp) hz
        | 1, _ => exact ft2_ans n7 I7.b4 I7.b3 hz)
      have HE : Hid (fsB [(3, 59, #[pv (w.heap.size + 1 + 1)]), (4, 60, #[pv (w.heap.size + 1 + 1 + 1 + 1), pv (w.heap.size + 1 + 1)])] (bsl [nameB s, !inSet s (sn fs k)]) (-1) (k : Int) = if nameB s = true then (if (!inSet s (sn fs k)) = true then (0, 0, 0) else (4, -1, (k : Int))) else (3, -1, (k : Int))) := rfl
      rw [HE.out] at hF
      clear HE hR
      cases hb : nameB s with
      | true =>
        cases hc : inSet s (sn fs k) with
        | false =>
          rw [hb, hc] at hF H1
          change Calls Tryz.prog 54 _ w7 (fun e w' => e = .returned (.agg #[.int .i64 0, .int .i64 0, .int .i64 0]) ∧ Keep w7 w') at hF
          go_wp2_with (first
            | (go_at_call 54; refine hF.mono ?_; rintro e w8 ⟨rfl, k8⟩
               obtain ⟨w9, wA, hw9, hwA, kA, tA, q0, q1, q2, g0, g1, g2⟩ := boxB w8 (.int .i64 0) (.int .i64 0) (.int .i64 0)
               have I9 := (I7.keep k8).keep kA
               obtain ⟨w10, hput, M10, G10⟩ := I9.b3.put (by omega) hz
               obtain ⟨a4, -⟩ := cells1 I9.b4
               obtain ⟨a2, -⟩ := cells1 (kA.at (k8.at n7))
               obtain ⟨c0, c1, c2, -, -, -⟩ := cells3 tA))
          go_roundw
          case rel => exact ⟨k + 1, by go_num, by have := HK.out; omega, by unfold Hid; rw [H.out, H1.out, if_pos trivial, if_neg (by simp)], I9.put (by rw [HS.out]; exact M10) G10⟩
          case measure => have := HK.out; simp [intOf]; omega
        | true =>
          rw [hb, hc] at hF H1
          change Calls Tryz.prog 54 _ w7 (fun e w' => e = .returned (.agg #[.int .i64 4, .int .i64 (-1), .int .i64 (k : Int)]) ∧ Keep w7 w') at hF
          go_wp2_with (first
            | (go_at_call 54; refine hF.mono ?_; rintro e w8 ⟨rfl, k8⟩
               obtain ⟨w9, wA, hw9, hwA, kA, tA, q0, q1, q2, g0, g1, g2⟩ := boxB w8 (.int .i64 4) (.int .i64 (-1)) (.int .i64 (k : Int))
               have I9 := (I7.keep k8).keep kA
               obtain ⟨c0, c1, c2, -, -, -⟩ := cells3 tA
               obtain ⟨d0, d1, d3, p0, p1, p2⟩ := cells3 I9.b1))
          have h := heap3 wA (w.heap.size + 1) (.int .i64 4) (.int .i64 (-1)) (.int .i64 (k : Int)) I9.b1
          have kk := keep3 I9.kp (w.heap.size + 1) (by omega) (.int .i64 4) (.int .i64 (-1)) (.int .i64 (k : Int))
          refine bodyPost_ret (ret_bk rfl _ _ (w.heap.size + 1) _ _ _ rfl h) rfl ⟨?_, kk⟩
          rw [H.out, H1.out, if_pos trivial, if_pos trivial]
      | false =>
        rw [hb] at hF H1
        change Calls Tryz.prog 54 _ w7 (fun e w' => e = .returned (.agg #[.int .i64 3, .int .i64 (-1), .int .i64 (k : Int)]) ∧ Keep w7 w') at hF
        go_wp2_with (first
            | (go_at_call 54; refine hF.mono ?_; rintro e w8 ⟨rfl, k8⟩
               obtain ⟨w9, wA, hw9, hwA, kA, tA, q0, q1, q2, g0, g1, g2⟩ := boxB w8 (.int .i64 3) (.int .i64 (-1)) (.int .i64 (k : Int))
               have I9 := (I7.keep k8).keep kA
               obtain ⟨c0, c1, c2, -, -, -⟩ := cells3 tA
               obtain ⟨d0, d1, d3, p0, p1, p2⟩ := cells3 I9.b1))
        have h := heap3 wA (w.heap.size + 1) (.int .i64 3) (.int .i64 (-1)) (.int .i64 (k : Int)) I9.b1
        have kk := keep3 I9.kp (w.heap.size + 1) (by omega) (.int .i64 3) (.int .i64 (-1)) (.int .i64 (k : Int))
        refine bodyPost_ret (ret_bk rfl _ _ (w.heap.size + 1) _ _ _ rfl h) rfl ⟨?_, kk⟩
        rw [H.out, H1.out, if_neg (by simp)]
    · have hltc : ¬ (k : Int) < (fs.length : Int) := by omega
      have H1 : Hid (ftF fs (fs.length - k) k = (0, 0, 0)) := by rw [show fs.length - k = 0 by omega]; rfl
      obtain ⟨c0, c1, c2, f0, f1, f2⟩ := cells3 I.out.b1
      clear hlt
      go_wp2_with fail
      have h := heap3 wr (w.heap.size + 1) (.int .i64 0) (.int .i64 0) (.int .i64 0) I.out.b1
      have kk := keep3 I.out.kp (w.heap.size + 1) (by omega) (.int .i64 0) (.int .i64 0) (.int .i64 0)
      refine bodyPost_ret (ret_bk rfl _ _ (w.heap.size + 1) _ _ _ rfl h) rfl ⟨?_, kk⟩
      rw [H.out, H1.out]
end Go.Proofs.YtinjikoocegooaaGreatDoor
