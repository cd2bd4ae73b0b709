import Derived.Test.YtodegcobkngmlaaGreatDoorProg
import Derived.Test.YtodegcobkngmlaaGreatDoorCS13
import Derived.WalkKit
import Derived.WalkSpells
import Derived.WalkLawsBesides
import Derived.Deep.Draws
import Derived.Deep.QuietTactic
import Derived.BigQuiet
import Derived.Laws.Externs
import Derived.Laws.CopyOwn
import Derived.Shelf.Abstract
import Derived.Deep.RegionLaw
import Derived.BigRegion
import Derived.Deep.RegionHeld3
import Derived.RangeFuncBox
import Derived.RangeFuncLeaves
import Derived.RangeFuncCalls
import Derived.RangeFuncRecord
import Derived.Below
import Derived.OwnWalkIn
import Derived.TacticsInMore
import Derived.LoopNIn
import Derived.LoopIn
import Derived.Sort.LoopGhostIn
import Derived.Deep.RegionWith
import Derived.Stop.RegionWithIn
import Derived.Laws.MathBits
import Derived.Maps.OwnSet
import Derived.StringKeys
import Derived.RegionTactic
import Derived.Orders
import Derived.OrdersIn
import Derived.RegionIn
import Ieee.Arith
import Derived.Laws.StructEq
import Derived.Lib.BufferWrite
import Derived.Lib.UnsafeStr
import Derived.Laws.MakeOwn
import Derived.Deep.CutBlock
import Derived.Deep.CutRange
import Derived.WalkMore
import Derived.Test.YtodegcobkngmlaaGreatDoorU2
set_option linter.unusedVariables false
set_option linter.unusedSimpArgs false
namespace Go.Proofs.YtodegcobkngmlaaGreatDoor
open Go.RowKit Go.Shelf
attribute [local go_sem] Oper.semAt_some
/-- What is wrong with an ensemble and a vector. -/
def exE (nm : ByteArray) (fs : List ByteArray) (N : Int) (base : List Int) (ts : List (Int × List Nd)) (m : Nat) : Int := if (chB nm fs N base ts).1 = 0 then (if m = fs.length then 0 else 72) else 5
/-- The boxes of Bounds. -/
theorem boxes5 (w : World) (E : Array Value) (u v x y : Value) (t1 t2 t3 t4 t5 : Nat) : ∃ w5, ((((w.alloc (Obj.cells E t1)).alloc (Obj.cells #[u] t2)).alloc (Obj.cells #[v] t3)).alloc (Obj.cells #[x] t4)).alloc (Obj.cells #[y] t5) = w5 ∧ Keep w w5 ∧ w5.heap.size = w.heap.size + 5 ∧
    w5.heap[w.heap.size]? = some (Obj.cells E t1 (0, 0)) ∧ w5.heap[w.heap.size + 1]? = some (Obj.cells #[u] t2 (0, 0)) ∧ w5.heap[w.heap.size + 1 + 1]? = some (Obj.cells #[v] t3 (0, 0)) ∧ w5.heap[w.heap.size + 1 + 1 + 1]? = some (Obj.cells #[x] t4 (0, 0)) ∧ w5.heap[w.heap.size + 1 + 1 + 1 + 1]? = some (Obj.cells #[y] t5 (0, 0)) := by
  obtain ⟨w1, e1, k1, h1, s1⟩ := boxed w E t1
  obtain ⟨w2, e2, k2, h2, s2⟩ := boxed w1 #[u] t2
  obtain ⟨w3, e3, k3, h3, s3⟩ := boxed w2 #[v] t3
  obtain ⟨w4, e4, k4, h4, s4⟩ := boxed w3 #[x] t4
  obtain ⟨w5, e5, k5, h5, s5⟩ := boxed w4 #[y] t5
  rw [s1] at h2
  rw [s2, s1] at h3
  rw [s3, s2, s1] at h4
  rw [s4, s3, s2, s1] at h5
  have k35 := k4.trans k5
  have k25 := k3.trans k35
  have k15 := k2.trans k25
  exact ⟨w5, by rw [e1, e2, e3, e4, e5], k1.trans k15, by omega, k15.at h1, k25.at h2, k35.at h3, k5.at h4, h5⟩
/-- Two boxes written over. -/
theorem put11 {w : World} {g k T U : Nat} {x0 x1 : Value} (h : w.heap[g]? = some (.cells #[x0] T (0, 0))) (h' : w.heap[k]? = some (.cells #[x1] U (0, 0))) (hne : g ≠ k) (v0 v1 : Value) :
    (w.setCell ⟨g, 0, none⟩ v0).cell? ⟨k, 0, none⟩ = some x1 ∧ (w.setCell ⟨g, 0, none⟩ v0).frozen? ⟨k, 0, none⟩ = false ∧
    ∃ w', ((w.setCell ⟨g, 0, none⟩ v0).setCell ⟨k, 0, none⟩ v1) = w' ∧ w'.heap[g]? = some (.cells #[v0] T (0, 0)) ∧ w'.heap[k]? = some (.cells #[v1] U (0, 0)) ∧ (∀ j, j ≠ g → j ≠ k → w'.heap[j]? = w.heap[j]?) ∧ w'.heap.size = w.heap.size ∧ (∀ w0, Keep w0 w → w0.heap.size ≤ g → w0.heap.size ≤ k → Keep w0 w') := by
  have a0 := heap1 w g v0 h
  have a1 : (w.setCell ⟨g, 0, none⟩ v0).heap[k]? = some (.cells #[x1] U (0, 0)) := (neq_set _ _ _ _ k (fun e => hne e.symm)).trans h'
  refine ⟨(cells1 a1).1, (cells1 a1).2, _, rfl, (neq_set _ _ _ _ g hne).trans a0, heap1 _ k v1 a1, fun j h1 h2 => by rw [neq_set _ _ _ _ j h2, neq_set _ _ _ _ j h1], by simp only [World.size_setCell], fun w0 kk hg hk => (kk.setCell (p := ⟨g, 0, none⟩) hg v0).setCell (p := ⟨k, 0, none⟩) hk v1⟩
set_option maxRecDepth 100000 in
set_option maxHeartbeats 2000000 in
theorem Bounds_err (nm : ByteArray) (fa : Option Addr) (fs : List ByteArray) (cf : Nat) (N : Int) (ba : Option Addr) (base : List Int) (cb : Nat) (ta : Option Addr) (ts : List (Int × List Nd)) (ct : Nat) (ax : Option Addr) (xs : List Nat) (cx : Nat) (n : Int) (w : World) (h : EnA w nm fa fs ba base ta ts) (he : exE nm fs N base ts xs.length ≠ 0) :
    Calls Tryz.prog 17 #[.agg (ev nm fa fs.length cf N ba base.length cb ta ts.length ct), .slice ax xs.length cx, .int .i64 n] w fun e w' => e = .returned (.tuple #[.slice none 0 0, .int .i64 (exE nm fs N base ts xs.length)]) ∧ Keep w w' := by
  obtain ⟨w5, hw5, k5, s5, b0, b1, b2, b3, b4⟩ := boxes5 w (ev nm fa fs.length cf N ba base.length cb ta ts.length ct) (.int .i64 n) (.slice none 0 0) (.int .i64 0) (.slice ax xs.length cx) 26 3 40 28 27
  have hX := errorOf_any nm fa fs cf N ba base cb ta ts ct (w.heap.size + 1 + 1 + 1 + 1) 1 xs.length cx ax w5 (h.keep k5) (cells1 b4).1
  have hX2 : Calls Tryz.prog 9 #[.agg (ev nm fa fs.length cf N ba base.length cb ta ts.length ct), .slice (some ⟨w.heap.size + 1 + 1 + 1 + 1, 0, none⟩) 1 1] w5 fun e w' => e = .returned (.int .i64 (exE nm fs N base ts xs.length)) ∧ Keep w5 w' := hX
  clear hX
  obtain ⟨E, hE⟩ : ∃ E, exE nm fs N base ts xs.length = E := ⟨_, rfl⟩
  rw [hE] at hX2 he ⊢
  clear hE
  have hne : (E != 0) = true := by simpa using he
  clear he
  obtain ⟨m, hm⟩ : ∃ m, xs.length = m := ⟨_, rfl⟩
  rw [hm] at hw5 ⊢
  clear hm
  go_enter Tryz.func17, Tryz.ntmps17
  go_wp2_with (first | rw [hw5] | (go_at_call 9; refine hX2.mono ?_; rintro e w6 ⟨rfl, k6⟩; have c2 := k6.at b2; have c3 := k6.at b3; obtain ⟨p1, p2, w7, hw7, q1, q2, q3, q4, q5⟩ := put11 c2 c3 (by omega) (.slice none 0 0) (.int .i64 E); obtain ⟨d2, f2⟩ := cells1 c2))
  refine bodyPost_ret (results_c2 rfl _ _ (w.heap.size + 1 + 1) (w.heap.size + 1 + 1 + 1) none 0 0 E rfl rfl (cells1 q1).1 (cells1 q2).1) rfl ⟨rfl, q5 w (k5.trans k6) (by omega) (by omega)⟩
end Go.Proofs.YtodegcobkngmlaaGreatDoor
set_option linter.unusedVariables false
set_option linter.unusedSimpArgs false
namespace Go.Proofs.YtodegcobkngmlaaGreatDoor
open Go.RowKit Go.Shelf
set_option maxRecDepth 100000 in
set_option maxHeartbeats 1000000 in
theorem rValid_any (nm : ByteArray) (fa : Option Addr) (fs : List ByteArray) (cf : Nat) (N : Int) (ba : Option Addr) (base : List Int) (cb : Nat) (ta : Option Addr) (ts : List (Int × List Nd)) (ct : Nat) (w : World) (h : EnA w nm fa fs ba base ta ts) :
    Calls Tryz.prog 24 #[.agg (ev nm fa fs.length cf N ba base.length cb ta ts.length ct)] w fun e w' => e = .returned (.bool ((chB nm fs N base ts).1 == 0)) ∧ Keep w w' := by
  obtain ⟨w1, hw1, k1, t1, s1⟩ := boxed w (ev nm fa fs.length cf N ba base.length cb ta ts.length ct) 26
  obtain ⟨z0, z1, z2, z3, z4⟩ := cells5 t1
  have hC := rCheck_any nm fa fs cf N ba base cb ta ts ct w1 (h.keep k1)
  generalize chB nm fs N base ts = B at hC ⊢
  obtain ⟨e0, e1, e2⟩ := B
  change Calls Tryz.prog 29 _ w1 (fun e w' => e = .returned (.agg #[.int .i64 e0, .int .i64 e1, .int .i64 e2]) ∧ Keep w1 w') at hC
  go_enter Tryz.func24, Tryz.ntmps24
  go_wp2_with (first
    | rw [hw1]
    | (go_at_call 29; refine hC.mono ?_; rintro e w3 ⟨rfl, k3⟩
       obtain ⟨w4, w5, hw4, hw5, k5, t5, a0, a1, a2, g0, g1, g2⟩ := boxB w3 (.int .i64 e0) (.int .i64 e1) (.int .i64 e2)
       obtain ⟨c0, -, -, -, -, -⟩ := cells3 t5))
  go_ret
  exact ⟨rfl, k1.trans (k3.trans k5)⟩
set_option maxRecDepth 100000 in
set_option maxHeartbeats 1000000 in
/-- What is wrong with an ensemble and one vector, by the reference. -/
theorem rError_any (nm : ByteArray) (fa : Option Addr) (fs : List ByteArray) (cf : Nat) (N : Int) (ba : Option Addr) (base : List Int) (cb : Nat) (ta : Option Addr) (ts : List (Int × List Nd)) (ct : Nat) (b c m cx : Nat) (ax : Option Addr) (w : World) (h : EnA w nm fa fs ba base ta ts) (hx : w.cell? ⟨b, 0, none⟩ = some (.slice ax m cx)) :
    Calls Tryz.prog 12 #[.agg (ev nm fa fs.length cf N ba base.length cb ta ts.length ct), .slice (some ⟨b, 0, none⟩) 1 c] w fun e w' => e = .returned (.int .i64 (exE nm fs N base ts m)) ∧ Keep w w' := by
  obtain ⟨w1, hw1, k1, t1, s1⟩ := boxed w (ev nm fa fs.length cf N ba base.length cb ta ts.length ct) 26
  obtain ⟨x0, x1, x2, x3, x4⟩ := cells5 t1
  have hV := rValid_any nm fa fs cf N ba base cb ta ts ct w1 (h.keep k1)
  unfold exE
  obtain ⟨B, hB⟩ : ∃ B, ((chB nm fs N base ts).1 == 0) = B := ⟨_, rfl⟩
  rw [hB] at hV
  cases B with
  | false =>
    have hne : ¬ (chB nm fs N base ts).1 = 0 := by simpa using hB
    rw [if_neg hne]
    clear hne hB
    go_enter Tryz.func12, Tryz.ntmps12
    go_wp2_with (first | rw [hw1] | (go_at_call 24; refine hV.mono ?_; rintro e w2 ⟨rfl, k2⟩))
    go_ret
    exact ⟨rfl, k1.trans k2⟩
  | true =>
    have hne : (chB nm fs N base ts).1 = 0 := by simpa using hB
    rw [if_pos hne]
    clear hne hB
    obtain ⟨F, hF⟩ : ∃ F, fs.length = F := ⟨_, rfl⟩
    rw [hF] at hV x1 hw1 t1 ⊢
    obtain ⟨R, hR⟩ : ∃ R : Int, (if m = F then (0 : Int) else 72) = R := ⟨_, rfl⟩
    rw [hR]
    replace hR : Hid _ := hR
    clear hF
    go_enter Tryz.func12, Tryz.ntmps12
    go_wp2_with (first | rw [hw1] | (go_at_call 24; refine hV.mono ?_; rintro e w2 ⟨rfl, k2⟩))
    have T2 := k2.at t1
    have hx2 := (k1.trans k2).cell hx
    clear hV hw1 x0 x1 x2 x3 x4
    go_loopw [6] (fun iv wr => ∃ k : Nat, iv = .int .i64 k ∧ k ≤ 1 ∧ Hid (k = 1 → m = F) ∧ Keep w2 wr) (fun iv _ => 1 - (intOf iv).toNat)
    case atStart => exact ⟨0, rfl, by omega, fun h => by omega, Keep.refl _⟩
    case round =>
      obtain ⟨k, rfl, hk, hm, kr⟩ := hrel
      have y1 := (cells5 (kr.at T2)).2.1
      have hx3 := kr.cell hx2
      by_cases hk0 : k = 0
      · subst hk0
        by_cases hmf : m = F
        · have hmc : ((m : Int) != (F : Int)) = false := by rw [hmf]; simp
          replace hmf : Hid _ := hmf
          go_wp2_with fail
          go_region
          all_goals
            go_wp2_with fail
            exact ⟨⟨1, by go_num, by omega, fun _ => hmf.out, kr.drew⟩, by simp [intOf]⟩
        · have hmc : ((m : Int) != (F : Int)) = true := by rw [bne_iff_ne]; omega
          have h72 : Hid (R = 72) := by unfold Hid; rw [← hR.out, if_neg hmf]
          clear hmf
          go_wp2_with fail
          go_region
          all_goals
            go_wp2_with fail
            go_ret
            exact ⟨by rw [h72.out]; rfl, (k1.trans k2).trans kr.drew⟩
      · obtain rfl : k = 1 := by omega
        have h00 : Hid (R = 0) := by unfold Hid; rw [← hR.out, if_pos (hm.out rfl)]
        go_wp2_with fail
        go_ret
        exact ⟨by rw [h00.out]; rfl, (k1.trans k2).trans kr⟩
end Go.Proofs.YtodegcobkngmlaaGreatDoor
