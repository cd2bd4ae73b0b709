import Derived.Test.YtodegcobkngmlaaGreatDoorProg
import Derived.Test.YtodegcobkngmlaaGreatDoorCS5
import Derived.WalkKit
import Derived.WalkSpells
import Derived.WalkLawsBesides
import Derived.Deep.Draws
import Derived.Deep.QuietTactic
import Derived.BigQuiet
import Derived.Laws.Externs
import Derived.Laws.CopyOwn
import Derived.Shelf.Abstract
import Derived.Deep.RegionLaw
import Derived.BigRegion
import Derived.Deep.RegionHeld3
import Derived.RangeFuncBox
import Derived.RangeFuncLeaves
import Derived.RangeFuncCalls
import Derived.RangeFuncRecord
import Derived.Below
import Derived.OwnWalkIn
import Derived.TacticsInMore
import Derived.LoopNIn
import Derived.LoopIn
import Derived.Sort.LoopGhostIn
import Derived.Deep.RegionWith
import Derived.Stop.RegionWithIn
import Derived.Laws.MathBits
import Derived.Maps.OwnSet
import Derived.StringKeys
import Derived.RegionTactic
import Derived.Orders
import Derived.OrdersIn
import Derived.RegionIn
import Ieee.Arith
import Derived.Laws.StructEq
import Derived.Lib.BufferWrite
import Derived.Lib.UnsafeStr
import Derived.Laws.MakeOwn
import Derived.Deep.CutBlock
import Derived.Deep.CutRange
set_option linter.unusedVariables false
set_option linter.unusedSimpArgs false
namespace Go.Proofs.YtodegcobkngmlaaGreatDoor
open Go.RowKit Go.Shelf
set_option maxRecDepth 100000 in
set_option maxHeartbeats 2000000 in
theorem ahead_any (nm : ByteArray) (fa : Option Addr) (Fn cf : Nat) (ba : Option Addr) (base : List Int) (cb : Nat) (ta : Option Addr) (ts : List (Int × List Nd)) (ct : Nat) (w : World) (hN : base.length ≤ 64) (hb : RdI w ba base) (ht : RdT w ta ts) (htl : ts.length ≤ 65536) (htn : ∀ j, j < ts.length → (ts.getD j (0, [])).2.length ≤ 1759218604441)
    (ho : ∀ k, k < ts.length → ∃ q : Nat, (ts.getD k (0, [])).1 = (q : Int) ∧ q < base.length) (hrm : ∀ o, o < base.length → rm base ts o < 4611686018427387904) :
    Calls Tryz.prog 20 #[.agg (ev nm fa Fn cf (base.length : Int) ba base.length cb ta ts.length ct)] w fun e w' => ∃ g, e = .returned (.slice (some ⟨g, 0, none⟩) base.length base.length) ∧ w.heap.size ≤ g ∧ w'.heap[g]? = some (.cells (VB (ahL base ts ts.length)).toArray 42 (0, 0)) ∧ Keep w w' := by
  obtain ⟨w1, hw1, k1, t1, s1⟩ := boxed w (ev nm fa Fn cf (base.length : Int) ba base.length cb ta ts.length ct) 26
  obtain ⟨x0, x1, x2, x3, x4⟩ := cells5 t1
  have hmk := fun wx => made_bounds base.length (by omega) wx
  obtain ⟨Z, hZ⟩ : ∃ Z, VB (List.replicate base.length (0, 0)) = Z := ⟨_, rfl⟩
  rw [hZ] at hmk
  obtain ⟨w2, hw2, k2, t2, s2⟩ := boxed w1 Z.toArray 42
  obtain ⟨e, he⟩ : ∃ e, w.heap.size = e := ⟨_, rfl⟩
  obtain ⟨g, hg⟩ : ∃ g, w1.heap.size = g := ⟨_, rfl⟩
  rw [he] at t1 x0 x1 x2 x3 x4
  rw [hg] at t2
  have Q : Hid (w.heap.size = e ∧ g = e + 1) := ⟨he, by omega⟩
  have T1 := k2.at t1
  obtain ⟨z0, z1, z2, z3, z4⟩ := cells5 T1
  have HZ : Hid (Z.toArray = (VB (List.replicate base.length (0, 0))).toArray) := by unfold Hid; rw [hZ]
  replace hrm : Hid _ := hrm
  replace ho : Hid _ := ho
  replace s1 : Hid _ := s1
  replace s2 : Hid _ := s2
  have k02 := k1.trans k2
  obtain ⟨n, hn⟩ : ∃ n, base.length = n := ⟨_, rfl⟩
  have HN : Hid (base.length = n) := hn
  rw [hn] at hN hmk x2 x3 z2 z3 hw1 t1 T1 ⊢
  clear hZ
  go_enter Tryz.func20, Tryz.ntmps20
  go_wp2_with (first | rw [hw1] | rw [hmk] | rw [hw2])
  go_loopw [16] (fun iv wr => ∃ (k : Nat) (l : List (Int × Int)), iv = .int .i64 k ∧ k ≤ n ∧ l.length = n ∧ Hid (∀ j, j < k → l.getD j (0, 0) = (base.getD j 0, base.getD j 0)) ∧ wr.heap[g]? = some (.cells (VB l).toArray 42 (0, 0)) ∧ wr.heap[e]? = w1.heap[e]? ∧ Keep w wr) (fun iv _ => n - (intOf iv).toNat)
  case atStart => exact ⟨0, List.replicate n (0, 0), rfl, by omega, by simp, fun j hj => by omega, by have h := HZ.out; rw [HN.out] at h; rw [← h]; exact t2, T1.trans t1.symm, k02⟩
  case round =>
    obtain ⟨k, l, rfl, hk, hl, H, G, Ebx, kr⟩ := hrel
    by_cases hkl : k < n
    · have hkc : (k : Int) < (n : Int) := by omega
      obtain ⟨bb, ob, rfl, cb0⟩ := (hb.keep kr) k (by rw [HN.out]; exact hkl)
      obtain ⟨x, hx⟩ : ∃ x, base.getD k 0 = x := ⟨_, rfl⟩
      rw [hx] at cb0
      have hx' : Hid (base.getD k 0 = x) := hx
      clear hx
      have y0 : wr.cell? ⟨g, k * 2, none⟩ = some (.int .i64 (l.getD k (0, 0)).1) := by rw [cell_of_row _ _ _ _ 42 (0, 0) G]; simpa using VB_lo l k (by omega)
      have y1 : wr.cell? ⟨g, k * 2 + 1, none⟩ = some (.int .i64 (l.getD k (0, 0)).2) := by rw [cell_of_row _ _ _ _ 42 (0, 0) G]; simpa using VB_hi l k (by omega)
      have f0 := frozen_of_row _ _ (k * 2) _ 42 G
      have f1 := frozen_of_row _ _ (k * 2 + 1) _ 42 G
      obtain ⟨wn, hwn⟩ : ∃ wn, (wr.setCell ⟨g, k * 2, none⟩ (.int .i64 x)).setCell ⟨g, k * 2 + 1, none⟩ (.int .i64 x) = wn := ⟨_, rfl⟩
      have Gn : wn.heap[g]? = some (.cells (VB (l.set k (x, x))).toArray 42 (0, 0)) := by
        rw [← hwn, ← VB_put l k x x (by omega)]
        exact heap_setCell_same _ g (k * 2 + 1) _ 42 _ (heap_setCell_same wr g (k * 2) _ 42 _ G)
      have En : wn.heap[e]? = w1.heap[e]? := by
        rw [← hwn, neq_set _ _ _ _ e (by have := Q.out; omega), neq_set _ _ _ _ e (by have := Q.out; omega)]
        exact Ebx
      have Kn : Keep w wn := by
        rw [← hwn]
        exact (kr.setCell (p := ⟨g, k * 2, none⟩) (by show w.heap.size ≤ g; have := Q.out; omega) _).setCell (p := ⟨g, k * 2 + 1, none⟩) (by show w.heap.size ≤ g; have := Q.out; omega) _
      have Hn : Hid (∀ j, j < k + 1 → (l.set k (x, x)).getD j (0, 0) = (base.getD j 0, base.getD j 0)) := by
        intro j hj
        by_cases ejk : j = k
        · subst ejk
          rw [hx'.out]
          simp [List.getD, show j < l.length by omega]
        · have h := H.out j (by omega)
          rw [← h]
          unfold List.getD
          rw [List.getElem?_set_ne (fun h => ejk h.symm)]
      go_wp2_with fail
      exact ⟨⟨k + 1, _, by go_num, by omega, by rw [List.length_set]; exact hl, Hn, Gn, En, Kn⟩, by simp [intOf]; omega⟩
    · have hkc : ¬ (k : Int) < (n : Int) := by omega
      obtain rfl : k = n := by omega
      have hal : l = ahL base ts 0 := ahL_zero (by rw [HN.out]; exact hl) (fun j hj => H.out j (by rw [HN.out] at hj; exact hj))
      rw [hal] at G
      have Er := Ebx.trans t1
      obtain ⟨q0, q1, q2, q3, q4⟩ := cells5 Er
      clear hal H
      go_wp2_with fail
      obtain ⟨wq, hwq⟩ : ∃ wq, wq = wr := ⟨_, rfl⟩
      have HG : Hid (wr.heap[g]? = some (.cells (VB (ahL base ts 0)).toArray 42 (0, 0))) := G
      have hkr : Hid (Keep w wr) := kr
      clear q0 q1 q2 q3 q4 Er Ebx G hl hwq
      go_loopw [31] (fun iv ws => ∃ (j : Nat), iv = .int .i64 j ∧ j ≤ ts.length ∧ ws.heap[g]? = some (.cells (VB (ahL base ts j)).toArray 42 (0, 0)) ∧ Keep w ws) (fun iv _ => ts.length - (intOf iv).toNat)
      case atStart => exact ⟨0, rfl, by omega, HG.out, hkr.out⟩
      case round =>
        obtain ⟨j, rfl, hj, G, ks⟩ := hrel
        by_cases hjl : j < ts.length
        · have hjc : (j : Int) < (ts.length : Int) := by omega
          obtain ⟨bt, ot, na, nc, rfl, d0, d1, dn, dc, dl, df⟩ := (ht.keep ks) j hjl
          obtain ⟨q, hq, hqb⟩ := ho.out j hjl
          have hln := htn j hjl
          have hnext := ahL_next base ts j q hjl hq hqb
          have hfit := ahL_fit (ts := ts) j q hqb (hrm.out q hqb)
          have hfit2 := ahL_fit (ts := ts) (j + 1) q hqb (hrm.out q hqb)
          rw [← hnext] at hfit2
          rw [hq] at d0
          obtain ⟨L, hL⟩ : ∃ L, (ts.getD j (0, [])).2 = L := ⟨_, rfl⟩
          rw [hL] at d1 dn dc dl hln hnext hfit2
          obtain ⟨l, hl⟩ : ∃ l, ahL base ts j = l := ⟨_, rfl⟩
          have hll : l.length = base.length := by rw [← hl, ahL_len]
          rw [hl] at G hnext hfit hfit2
          have hfit2' : ((l.getD q (0, 0)).1 + (sp L).1).natAbs < 4611686018427387904 ∧ ((l.getD q (0, 0)).2 + (sp L).2).natAbs < 4611686018427387904 := by simpa [List.getD, show q < l.length by omega] using hfit2
          have y0 : ∀ wx, Keep wr wx → True := fun _ _ => trivial
          clear hfit2 y0 df dc dl
          have hqn : (q : Int) < (k : Int) := by have := HN.out; omega
          have HX : Hid (l.set q ((l.getD q (0, 0)).1 + (sp L).1, (l.getD q (0, 0)).2 + (sp L).2) = ahL base ts (j + 1)) := hnext
          clear hnext hL hl hq
          obtain ⟨wA, hwA, kA, tA, sA⟩ := boxed wr #[.int .i64 (q : Int), .slice na L.length nc] 51
          obtain ⟨p, hp⟩ : ∃ p, wr.heap.size = p := ⟨_, rfl⟩
          rw [hp] at tA
          replace sA : Hid _ := sA
          obtain ⟨c0, c1, -, -⟩ := cells2 tA
          have hSp : ∀ wx, Keep wA wx → Calls Tryz.prog 22 #[.slice na L.length nc] wx fun e w' => e = .returned (.agg #[.int .i64 (sp L).1, .int .i64 (sp L).2]) ∧ Keep wx w' := fun wx kx => spanOf_any na nc L wx hln ((dn.keep kA).keep kx)
          obtain ⟨⟨a, b⟩, hab⟩ : ∃ ab, sp L = ab := ⟨_, rfl⟩
          rw [hab] at hSp hfit2' HX
          clear hab
          have kd : Keep wA wA.drew := (Keep.refl wA).drew
          have kz : Keep wA (wA.alloc (Obj.cells #[Value.int IntKind.i64 0, Value.int IntKind.i64 0] 42)).drew := ((Keep.refl wA).alloc _).drew
          have hzb : (wA.alloc (Obj.cells #[Value.int IntKind.i64 0, Value.int IntKind.i64 0] 42)).drew.heap[wA.heap.size]? = some (.cells #[.int .i64 0, .int .i64 0] 42 (0, 0)) := heap_alloc_new wA _
          go_wp2_with fail
          go_cut [8, 9] from 35 to 62 (fun sv pv wx => ∃ r, sv = .pointer (some ⟨r, 0, none⟩) ∧ pv = .pointer (some ⟨g, q * 2, none⟩) ∧ wx.heap[r]? = some (.cells #[.int .i64 a, .int .i64 b] 42 (0, 0)) ∧ wA.heap.size ≤ r ∧ Keep wA wx)
          case first =>
            go_region_held3 (fun wx => wx.cell? ⟨p, 0, none⟩ = some (.int .i64 (q : Int)) ∧ wx.cell? ⟨p, 1, none⟩ = some (.slice na L.length nc))
              (first
                | exact ⟨c0, c1⟩
                | exact ⟨kz.cell c0, kz.cell c1⟩
                | with_reducible exact ⟨kB.cell c0, kB.cell c1⟩
                | exact ⟨(kB.alloc _).cell c0, (kB.alloc _).cell c1⟩
                | exact ⟨((kB.setCell (p := ⟨wA.heap.size, 0, none⟩) (Nat.le_refl _) _).setCell (p := ⟨wA.heap.size, 1, none⟩) (Nat.le_refl _) _).cell c0, ((kB.setCell (p := ⟨wA.heap.size, 0, none⟩) (Nat.le_refl _) _).setCell (p := ⟨wA.heap.size, 1, none⟩) (Nat.le_refl _) _).cell c1⟩)
              (first
                | (go_at_call 22; refine (hSp _ kd).mono ?_; rintro e wB ⟨rfl, kB'⟩; have kB : Keep wA wB := kd.trans kB')
                | (go_at_call 22; refine (hSp _ kz).mono ?_; rintro e wB ⟨rfl, kB'⟩; have kB : Keep wA wB := kz.trans kB'; have hzB := kB'.at hzb; obtain ⟨u0, u1, v0', v1'⟩ := cells2 hzB))
            all_goals
              go_wp2_with fail
              go_meet
              case rel =>
                first
                  | exact ⟨wB.heap.size, rfl, rfl, heap_alloc_new wB _, kB.le, kB.alloc _⟩
                  | exact ⟨wA.heap.size, rfl, rfl, by simpa using heap_setCell_same _ wA.heap.size 1 _ 42 (.int .i64 b) (heap_setCell_same wB wA.heap.size 0 _ 42 (.int .i64 a) hzB), Nat.le_refl _, (kB.setCell (p := ⟨wA.heap.size, 0, none⟩) (Nat.le_refl _) _).setCell (p := ⟨wA.heap.size, 1, none⟩) (Nat.le_refl _) _⟩
          case rest =>
            obtain ⟨r, rfl, rfl, Rb, hrl, kc⟩ := hcut
            have Gc := (kA.trans kc).at G
            obtain ⟨u0, u1, -, -⟩ := cells2 Rb
            have y0 : wc.cell? ⟨g, q * 2, none⟩ = some (.int .i64 (l.getD q (0, 0)).1) := by rw [cell_of_row _ _ _ _ 42 (0, 0) Gc]; simpa using VB_lo l q (by omega)
            have y1 : wc.cell? ⟨g, q * 2 + 1, none⟩ = some (.int .i64 (l.getD q (0, 0)).2) := by rw [cell_of_row _ _ _ _ 42 (0, 0) Gc]; simpa using VB_hi l q (by omega)
            have f0 := frozen_of_row _ _ (q * 2) _ 42 Gc
            have f1 := frozen_of_row _ _ (q * 2 + 1) _ 42 Gc
            obtain ⟨⟨x, y⟩, hxy⟩ : ∃ xy, l.getD q (0, 0) = xy := ⟨_, rfl⟩
            rw [hxy] at y0 y1 hfit2' HX
            replace y0 : wc.cell? ⟨g, q * 2, none⟩ = some (.int .i64 x) := y0
            replace y1 : wc.cell? ⟨g, q * 2 + 1, none⟩ = some (.int .i64 y) := y1
            replace hfit2' : (x + a).natAbs < 4611686018427387904 ∧ (y + b).natAbs < 4611686018427387904 := hfit2'
            replace HX : Hid (l.set q (x + a, y + b) = ahL base ts (j + 1)) := HX
            have r1 : IntKind.i64.wrap (x + a) = x + a := by rw [IntWalk.i64_left]; exact IntWalk.wrap64_in _ (by omega)
            have r2 : IntKind.i64.wrap (y + b) = y + b := by rw [IntWalk.i64_left]; exact IntWalk.wrap64_in _ (by omega)
            have Gn : Hid (((wc.setCell ⟨g, q * 2, none⟩ (.int .i64 (x + a))).setCell ⟨g, q * 2 + 1, none⟩ (.int .i64 (y + b))).heap[g]? = some (.cells (VB (ahL base ts (j + 1))).toArray 42 (0, 0))) := by
              unfold Hid
              rw [← HX.out, ← VB_put l q (x + a) (y + b) (by omega)]
              exact heap_setCell_same _ g (q * 2 + 1) _ 42 _ (heap_setCell_same wc g (q * 2) _ 42 _ Gc)
            have Kn : Hid (Keep w ((wc.setCell ⟨g, q * 2, none⟩ (.int .i64 (x + a))).setCell ⟨g, q * 2 + 1, none⟩ (.int .i64 (y + b)))) := ((ks.trans (kA.trans kc)).setCell (p := ⟨g, q * 2, none⟩) (by show w.heap.size ≤ g; have := Q.out; omega) _).setCell (p := ⟨g, q * 2 + 1, none⟩) (by show w.heap.size ≤ g; have := Q.out; omega) _
            go_wp2_with fail
            go_region
            all_goals
              go_wp2_with fail
              exact ⟨⟨j + 1, by go_num, by omega, Gn.out, Kn.out.drew⟩, by simp [intOf]; omega⟩
        · have hjc : ¬ (j : Int) < (ts.length : Int) := by omega
          obtain rfl : j = ts.length := by omega
          go_wp2_with fail
          go_ret
          exact ⟨g, rfl, by have := Q.out; omega, G, ks⟩
end Go.Proofs.YtodegcobkngmlaaGreatDoor
