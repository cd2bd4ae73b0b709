import Derived.Test.YtodegcobkngmlaaGreatDoorProg
import Derived.Test.YtodegcobkngmlaaGreatDoorCT5
import Derived.WalkKit
import Derived.WalkSpells
import Derived.WalkLawsBesides
import Derived.Deep.Draws
import Derived.Deep.QuietTactic
import Derived.BigQuiet
import Derived.Laws.Externs
import Derived.Laws.CopyOwn
import Derived.Shelf.Abstract
import Derived.Deep.RegionLaw
import Derived.BigRegion
import Derived.Deep.RegionHeld3
import Derived.RangeFuncBox
import Derived.RangeFuncLeaves
import Derived.RangeFuncCalls
import Derived.RangeFuncRecord
import Derived.Below
import Derived.OwnWalkIn
import Derived.TacticsInMore
import Derived.LoopNIn
import Derived.LoopIn
import Derived.Sort.LoopGhostIn
import Derived.Deep.RegionWith
import Derived.Stop.RegionWithIn
import Derived.Laws.MathBits
import Derived.Maps.OwnSet
import Derived.StringKeys
import Derived.RegionTactic
import Derived.Orders
import Derived.OrdersIn
import Derived.RegionIn
import Ieee.Arith
import Derived.Laws.StructEq
import Derived.Lib.BufferWrite
import Derived.Lib.UnsafeStr
import Derived.Laws.MakeOwn
import Derived.Deep.CutBlock
import Derived.Deep.CutRange
import Derived.WalkMore
import Derived.Test.YtodegcobkngmlaaGreatDoorCT4
import Derived.Test.YtodegcobkngmlaaGreatDoorCT6
import Derived.Test.YtodegcobkngmlaaGreatDoorCS13
set_option linter.unusedVariables false
set_option linter.unusedSimpArgs false
namespace Go.Proofs.YtodegcobkngmlaaGreatDoor
open Go.RowKit Go.Shelf
attribute [local go_sem] Oper.semAt_some
/-- All that was there stands while an iterator runs. -/
structure KpB (w6 : World) (S : Nat) (T : Nat → Prop) (W : World) : Prop where
  be : Keep w6 W
  tb : ∀ g, T g → w6.heap.size ≤ g
  sz : S ≤ W.heap.size
theorem KpB.st {w6 : World} {S : Nat} {T : Nat → Prop} {A B : World} (hS : w6.heap.size ≤ S) (h : KpB w6 S T A) (hst : Stp T A B) : KpB w6 S (more T A B) B := by
  obtain ⟨h1, h2, h3⟩ := h
  have hz := hst.size
  refine ⟨⟨hst.os.trans h1.os, hst.tape.trans h1.tape, hst.output.trans h1.output, by have := h1.size; omega, fun g hg => (hst.block g (by omega) (fun q => by have := h2 g q; omega)).trans (h1.block g hg)⟩, ?_, by omega⟩
  rintro g (q | q)
  · exact h2 g q
  · omega
theorem KpB.put {w6 : World} {S : Nat} {T : Nat → Prop} {A : World} {r : Nat} {o' : Obj} (h : KpB w6 S T A) (h1 : w6.heap.size ≤ r) : KpB w6 S T (A.putObj r o') := by
  obtain ⟨q1, q2, q3⟩ := h
  exact ⟨⟨q1.os, q1.tape, q1.output, by simpa using q1.size, fun g hg => (World.putObj_heap_other (by omega)).trans (q1.block g hg)⟩, q2, by simpa using q3⟩
theorem put_keep {w A : World} {r : Nat} {o' : Obj} (h : Keep w A) (h1 : w.heap.size ≤ r) : Keep w (A.putObj r o') :=
  ⟨h.os, h.tape, h.output, by simpa using h.size, fun g hg => (World.putObj_heap_other (by omega)).trans (h.block g hg)⟩
set_option maxRecDepth 100000 in
set_option maxHeartbeats 2000000 in
theorem Bounds_in (f : Nat) (hf : 3 ≤ f) (nm : ByteArray) (fa : Option Addr) (fs : List ByteArray) (cf : Nat) (N : Int) (ba : Option Addr) (base : List Int) (cb : Nat) (ta : Option Addr) (ts : List (Int × List Nd)) (ct : Nat) (ax : Option Addr) (xs : List Nat) (cx : Nat) (n : Int) (w : World) (h : EnA w nm fa fs ba base ta ts) (hx : RdF w ax xs) (he : exE nm fs N base ts xs.length = 0) (R : RtE N base ts xs) (hxl : xs.length ≤ 17592186044416) :
    CallsIn Fence.wide f Tryz.prog 17 #[.agg (ev nm fa fs.length cf N ba base.length cb ta ts.length ct), .slice ax xs.length cx, .int .i64 n] w fun e w' => Keep w w' ∧
      ((0 ≤ n ∧ n ≤ ts.length ∧ ∃ g, e = .returned (.tuple #[.slice (some ⟨g, 0, none⟩) base.length base.length, .int .i64 0]) ∧ w.heap.size ≤ g ∧ w'.heap[g]? = some (.cells (VB (beL base ts (vX xs) n.toNat)).toArray 42 (0, 0))) ∨ (¬ (0 ≤ n ∧ n ≤ ts.length) ∧ e = .returned (.tuple #[.slice none 0 0, .int .i64 2]))) := by
  have h1 : 1 ≤ f := by omega
  obtain ⟨w5, hw5, k5, s5, b0, b1, b2, b3, b4⟩ := boxes5 w (ev nm fa fs.length cf N ba base.length cb ta ts.length ct) (.int .i64 n) (.slice none 0 0) (.int .i64 0) (.slice ax xs.length cx) 26 3 40 28 27
  have hX := errorOf_any nm fa fs cf N ba base cb ta ts ct (w.heap.size + 1 + 1 + 1 + 1) 1 xs.length cx ax w5 (h.keep k5) (cells1 b4).1
  have hX2 : Calls Tryz.prog 9 #[.agg (ev nm fa fs.length cf N ba base.length cb ta ts.length ct), .slice (some ⟨w.heap.size + 1 + 1 + 1 + 1, 0, none⟩) 1 1] w5 fun e w' => e = .returned (.int .i64 (exE nm fs N base ts xs.length)) ∧ Keep w5 w' := hX
  clear hX
  rw [he] at hX2
  obtain ⟨m, hm⟩ : ∃ m, xs.length = m := ⟨_, rfl⟩
  have hmH : Hid (xs.length = m) := hm
  have hbH : Hid ((base.length : Int) = N) := R.nb
  rw [hm] at hw5 ⊢
  clear hm
  refine callsIn_of_wp_marks Tryz.func17 rfl trivial ?_ rfl
  simp only [Tryz.ntmps17, List.size_toArray, List.length_cons, List.length_nil, Nat.reduceAdd, Nat.reduceSub, Array.replicate_succ, Array.replicate_zero, List.push_toArray, List.append_toArray, List.nil_append, List.cons_append]
  gi_wp2_with (first | rw [hw5] | (refine ⟨trivial, ?_⟩; gi_at_call 9; refine (callsIn_wide.2 hX2).mono ?_; rintro e w6 ⟨rfl, k6⟩; obtain ⟨y0, y1, y2, y3, y4⟩ := cells5 (k6.at b0)) | (refine ⟨trivial, ?_⟩; gi_at_call 11; refine (behind_in (f - 1) _ _ _ _ _).mono ?_; rintro e w' ⟨rfl, rfl⟩))
  obtain ⟨wA, hwA, kA, tA, sA⟩ := boxed w6 #[.string nm, .slice fa fs.length cf, .int .i64 N, .slice ba base.length cb, .slice ta ts.length ct] 26
  obtain ⟨w8, hw8, k8, t8, s8⟩ := boxed wA #[.slice ax m cx] 27
  rw [hwA, hw8]
  have S8 : w8.heap.size = w6.heap.size + 2 := by omega
  rw [sA] at t8
  have tA8 := k8.at tA
  have k68 : Keep w6 w8 := kA.trans k8
  clear hwA hw8 kA sA k8 tA s8 hw5 hX2
  have k06 : Keep w w6 := k5.trans k6
  have c1 := k6.at b1
  have c2 := k6.at b2
  have c3 := k6.at b3
  have z6 : w.heap.size + 5 ≤ w6.heap.size := by have := k6.le; omega
  clear b0 b1 b2 b3 b4 y0 y1 y2 y3 y4 k5 k6 s5
  have hEn := h.keep k06
  have hsq := behind_seq w6 (f - 1) (by omega) w6.heap.size (w6.heap.size + 1) nm fa fs.length cf ba base cb ta ts ct ax cx xs hxl (vX xs) R.nl hEn.er.rb hEn.er.rt R.tl R.tn R.ho R.rm R.va (fun _ _ => rfl) R.se R.ft w8 (by rw [R.nb]; exact tA8) (by rw [hmH.out]; exact t8) (by omega) (by omega) k68 (hx.keep k06)
  refine wp_rangeM h1 (gf := 19) (lb := #[.pointer (some ⟨w6.heap.size, 0, none⟩), .pointer (some ⟨w6.heap.size + 1, 0, none⟩)]) rfl (enters_of Tryz.func19 (by kernel_rfl) rfl)
    hsq (MB_stable _ _ _) (Below.refl _ _) (fun _ => rfl) (by omega) (fun g hg => by omega)
    (fun pre T W => KpB w6 (w6.heap.size + 2) T W ∧ ∀ x ∈ pre, ((x.1 : Nat) : Int) ≠ n)
    (fun c pre W => c = .ret ∧ ∃ k g, pre.getLast? = some (k, g) ∧ ((k : Nat) : Int) = n ∧ W.heap[w.heap.size + 1 + 1]? = some (.cells #[.slice (some ⟨g, 0, none⟩) base.length base.length] 40 (0, 0)) ∧ W.heap[w.heap.size + 1 + 1 + 1]? = some (.cells #[.int .i64 0] 28 (0, 0)) ∧ W.heap[g]? = some (.cells (VB (beL base ts (vX xs) k)).toArray 42 (0, 0)) ∧ (g < w8.heap.size ∨ w8.heap.size + 2 ≤ g) ∧ w6.heap.size ≤ g ∧ Keep w W)
    (fun pre T A B hI hst => ⟨hI.1.st (by omega) hst, hI.2⟩) (fun pre T A r o' hI h1 h2 h3 => ⟨hI.1.put (by omega), hI.2⟩) ?ix2 ?start ?a1 ?assign ?body ?done ?stop
  case assign =>
    intro l x W K hK
    gi_wp2
    exact hK
  case start =>
    intro W hst
    refine ⟨⟨?_, fun g hg => by omega, by have := hst.size; omega⟩, by simp⟩
    exact ⟨hst.os.trans k68.os, hst.tape.trans k68.tape, hst.output.trans k68.output, by have := hst.size; have := k68.size; omega, fun g hg => (hst.block g (by omega) (fun h => h)).trans (k68.block g hg)⟩
  case ix2 =>
    rintro c pre A r o' ⟨rfl, k, g, q1, q2, q3, q4, q5, q6, q7, q8⟩ r1 r2 r3
    have kp : ∀ j, j ≠ r → (A.putObj r o').heap[j]? = A.heap[j]? := fun j hj => World.putObj_heap_other hj
    exact ⟨rfl, k, g, q1, q2, (kp _ (by omega)).trans q3, (kp _ (by omega)).trans q4, (kp _ (by omega)).trans q5, q6, q7, put_keep q8 (by omega)⟩
  case body =>
    rintro l pre ⟨k, g⟩ T W ⟨hC, hpre⟩ hM hpl hT hsz
    have kW : Keep w6 W := hC.be
    have d1 := (cells1 (kW.at c1)).1
    have e2 := kW.at c2
    have e3 := kW.at c3
    obtain ⟨d2, f2⟩ := cells1 e2
    obtain ⟨hTg, hg⟩ := hM
    replace hTg : T g := hTg
    replace hg : W.heap[g]? = some (.cells (VB (beL base ts (vX xs) k)).toArray 42 (0, 0)) := hg
    by_cases hkn : ((k : Nat) : Int) = n
    · obtain ⟨p1, p2, w9, hw9, q1, q2, q3, q4, q5⟩ := put11 e2 e3 (by omega) (.slice (some ⟨g, 0, none⟩) base.length base.length) (.int .i64 0)
      have hcb : (((k : Nat) : Int) == n) = true := by simpa using hkn
      have hgT := hC.tb g hTg
      have HX : Hid ((w9.heap[w8.heap.size]? = W.heap[w8.heap.size]? ∧ w9.heap[w8.heap.size + 1]? = W.heap[w8.heap.size + 1]?) ∧ ∃ k' g', (pre ++ [(k, g)]).getLast? = some (k', g') ∧ ((k' : Nat) : Int) = n ∧ w9.heap[w.heap.size + 1 + 1]? = some (.cells #[.slice (some ⟨g', 0, none⟩) base.length base.length] 40 (0, 0)) ∧ w9.heap[w.heap.size + 1 + 1 + 1]? = some (.cells #[.int .i64 0] 28 (0, 0)) ∧ w9.heap[g']? = some (.cells (VB (beL base ts (vX xs) k')).toArray 42 (0, 0)) ∧ (g' < w8.heap.size ∨ w8.heap.size + 2 ≤ g') ∧ w6.heap.size ≤ g' ∧ Keep w w9) :=
        ⟨⟨q3 _ (by omega) (by omega), q3 _ (by omega) (by omega)⟩, k, g, by simp, hkn, q1, q2, (q3 g (by omega) (by omega)).trans hg, hT g hTg, hgT, q5 w (k06.trans kW) (by omega) (by omega)⟩
      clear hkn hpre hC hpl
      gi_wp2_with fail
      unfold postT
      exact ⟨HX.out.1, rfl, HX.out.2⟩
    · have hcb : (((k : Nat) : Int) == n) = false := by simpa using hkn
      have HX : Hid (∀ x ∈ pre ++ [(k, g)], ((x.1 : Nat) : Int) ≠ n) := by
        intro x hx
        rcases List.mem_append.1 hx with q | q
        · exact hpre x q
        · rw [List.mem_singleton.1 q]; exact hkn
      clear hkn hpre
      gi_wp2_with fail
      unfold postT
      exact ⟨⟨rfl, rfl⟩, ⟨rfl, rfl, rfl, Nat.le_refl _, fun _ _ _ => rfl⟩, hC, HX.out⟩
  case done =>
    rintro xs' T W ⟨g, rfl⟩ ⟨hC, hpre⟩ hD
    have kW : Keep w6 W := hC.be
    have hno : Hid (¬ (0 ≤ n ∧ n ≤ ts.length)) := by
      rintro ⟨q1, q2⟩
      exact hpre (n.toNat, g) (List.mem_map.2 ⟨n.toNat, by simp; omega, rfl⟩) (by simp; omega)
    have e2 := kW.at c2
    have e3 := kW.at c3
    obtain ⟨d2, f2⟩ := cells1 e2
    obtain ⟨p1, p2, w9, hw9, q1, q2, q3, q4, q5⟩ := put11 e2 e3 (by omega) (.slice none 0 0) (.int .i64 2)
    have hD9 := (q3 w8.heap.size (by omega) (by omega)).trans hD
    gi_wp2_with fail
    refine ⟨by simp, .inl ⟨_, _, rfl, run_takeDeferred hD9, ?_⟩⟩
    have hk9 : Keep w w9 := q5 w (k06.trans kW) (by omega) (by omega)
    have hP : ∀ j, j ≠ w8.heap.size → (w9.putObj w8.heap.size (.deferred none)).heap[j]? = w9.heap[j]? := fun j hj => World.putObj_heap_other hj
    refine ⟨_, results_c2 rfl _ _ (w.heap.size + 1 + 1) (w.heap.size + 1 + 1 + 1) none 0 0 2 rfl rfl (cells1 ((hP _ (by omega)).trans q1)).1 (cells1 ((hP _ (by omega)).trans q2)).1, ?_⟩
    exact ⟨put_keep hk9 (by omega), .inr ⟨hno.out, rfl⟩⟩
  case stop =>
    rintro c pre W ⟨g, k, hk, rfl⟩ ⟨rfl, k', g', q1, q2, q3, q4, q5, q6, q7, q8⟩ hD
    have hkk : Hid (k = k' ∧ g = g') := by
      have : ((List.range (k + 1)).map fun k => (k, g)).getLast? = some (k, g) := by rw [List.range_succ]; simp
      rw [this] at q1
      show _ ∧ _
      simpa using q1
    have hn2 : Hid (k' = n.toNat ∧ 0 ≤ n ∧ n ≤ ts.length) := by
      have := hkk.out.1
      exact ⟨by omega, by omega, by omega⟩
    clear q1 q2
    gi_wp2_with fail
    refine ⟨by simp, .inl ⟨_, _, rfl, run_takeDeferred hD, ?_⟩⟩
    have hP : ∀ j, j ≠ w8.heap.size → (W.putObj w8.heap.size (.deferred none)).heap[j]? = W.heap[j]? := fun j hj => World.putObj_heap_other hj
    refine ⟨_, results_c2 rfl _ _ (w.heap.size + 1 + 1) (w.heap.size + 1 + 1 + 1) (some ⟨g', 0, none⟩) base.length base.length 0 rfl rfl (cells1 ((hP _ (by omega)).trans q3)).1 (cells1 ((hP _ (by omega)).trans q4)).1, ?_⟩
    refine ⟨put_keep q8 (by omega), .inl ⟨hn2.out.2.1, hn2.out.2.2, g', rfl, by omega, ?_⟩⟩
    rw [← hn2.out.1]
    exact (hP _ (by omega)).trans q5
end Go.Proofs.YtodegcobkngmlaaGreatDoor
set_option linter.unusedVariables false
set_option linter.unusedSimpArgs false
namespace Go.Proofs.YtodegcobkngmlaaGreatDoor
open Go.RowKit Go.Shelf
attribute [local go_sem] Oper.semAt_some
theorem boxes4 (w : World) (E : Array Value) (u v x : Value) (t1 t2 t3 t4 : Nat) : ∃ w5, (((w.alloc (Obj.cells E t1)).alloc (Obj.cells #[u] t2)).alloc (Obj.cells #[v] t3)).alloc (Obj.cells #[x] t4) = w5 ∧ Keep w w5 ∧ w5.heap.size = w.heap.size + 4 ∧
    w5.heap[w.heap.size]? = some (Obj.cells E t1 (0, 0)) ∧ w5.heap[w.heap.size + 1]? = some (Obj.cells #[u] t2 (0, 0)) ∧ w5.heap[w.heap.size + 1 + 1]? = some (Obj.cells #[v] t3 (0, 0)) ∧ w5.heap[w.heap.size + 1 + 1 + 1]? = some (Obj.cells #[x] t4 (0, 0)) := by
  obtain ⟨w1, e1, k1, h1, s1⟩ := boxed w E t1
  obtain ⟨w2, e2, k2, h2, s2⟩ := boxed w1 #[u] t2
  obtain ⟨w3, e3, k3, h3, s3⟩ := boxed w2 #[v] t3
  obtain ⟨w4, e4, k4, h4, s4⟩ := boxed w3 #[x] t4
  rw [s1] at h2
  rw [s2, s1] at h3
  rw [s3, s2, s1] at h4
  have k24 := k3.trans k4
  have k14 := k2.trans k24
  exact ⟨w4, by rw [e1, e2, e3, e4], k1.trans k14, by omega, k14.at h1, k24.at h2, k4.at h3, h4⟩
theorem boxes2 (w : World) (E D : Array Value) (t1 t2 : Nat) : ∃ w5, (w.alloc (Obj.cells E t1)).alloc (Obj.cells D t2) = w5 ∧ Keep w w5 ∧ w5.heap.size = w.heap.size + 2 ∧
    w5.heap[w.heap.size]? = some (Obj.cells E t1 (0, 0)) ∧ w5.heap[w.heap.size + 1]? = some (Obj.cells D t2 (0, 0)) := by
  obtain ⟨w1, e1, k1, h1, s1⟩ := boxed w E t1
  obtain ⟨w2, e2, k2, h2, s2⟩ := boxed w1 D t2
  rw [s1] at h2
  exact ⟨w2, by rw [e1, e2], k1.trans k2, by omega, k2.at h1, h2⟩
set_option maxRecDepth 100000 in
set_option maxHeartbeats 2000000 in
theorem Above_err (nm : ByteArray) (fa : Option Addr) (fs : List ByteArray) (cf : Nat) (N : Int) (ba : Option Addr) (base : List Int) (cb : Nat) (ta : Option Addr) (ts : List (Int × List Nd)) (ct : Nat) (ax : Option Addr) (xs : List Nat) (cx : Nat) (o lim : Int) (w : World) (h : EnA w nm fa fs ba base ta ts) (he : exE nm fs N base ts xs.length ≠ 0) :
    Calls Tryz.prog 4 #[.agg (ev nm fa fs.length cf N ba base.length cb ta ts.length ct), .slice ax xs.length cx, .int .i64 o, .int .i64 lim] w fun e w' => e = .returned (.tuple #[.bool false, .int .i64 0, .int .i64 (exE nm fs N base ts xs.length)]) ∧ Keep w w' := by
  obtain ⟨w4, hw4, k04, s4, b0, b1, b2, b4⟩ := boxes4 w (ev nm fa fs.length cf N ba base.length cb ta ts.length ct) (.int .i64 o) (.int .i64 lim) (.slice ax xs.length cx) 26 3 2 27
  have hX := errorOf_any nm fa fs cf N ba base cb ta ts ct (w.heap.size + 1 + 1 + 1) 1 xs.length cx ax w4 (h.keep k04) (cells1 b4).1
  have hX2 : Calls Tryz.prog 9 #[.agg (ev nm fa fs.length cf N ba base.length cb ta ts.length ct), .slice (some ⟨w.heap.size + 1 + 1 + 1, 0, none⟩) 1 1] w4 fun e w' => e = .returned (.int .i64 (exE nm fs N base ts xs.length)) ∧ Keep w4 w' := hX
  clear hX
  obtain ⟨E, hE⟩ : ∃ E, exE nm fs N base ts xs.length = E := ⟨_, rfl⟩
  rw [hE] at hX2 he ⊢
  clear hE
  have hne : (E != 0) = true := by simpa using he
  clear he
  obtain ⟨m, hm⟩ : ∃ m, xs.length = m := ⟨_, rfl⟩
  rw [hm] at hw4 ⊢
  clear hm
  go_enter Tryz.func4, Tryz.ntmps4
  go_wp2_with (first | rw [hw4] | (go_at_call 9; refine hX2.mono ?_; rintro e w6 ⟨rfl, k6⟩))
  go_ret3
  exact ⟨rfl, k04.trans k6⟩
set_option maxRecDepth 100000 in
set_option maxHeartbeats 2000000 in
theorem Class_err (nm : ByteArray) (fa : Option Addr) (fs : List ByteArray) (cf : Nat) (N : Int) (ba : Option Addr) (base : List Int) (cb : Nat) (ta : Option Addr) (ts : List (Int × List Nd)) (ct : Nat) (ax : Option Addr) (xs : List Nat) (cx : Nat) (w : World) (h : EnA w nm fa fs ba base ta ts) (he : exE nm fs N base ts xs.length ≠ 0) :
    Calls Tryz.prog 6 #[.agg (ev nm fa fs.length cf N ba base.length cb ta ts.length ct), .slice ax xs.length cx] w fun e w' => e = .returned (.tuple #[.int .i64 0, .int .i64 0, .int .i64 (exE nm fs N base ts xs.length)]) ∧ Keep w w' := by
  obtain ⟨w4, hw4, k04, s4, b0, b4⟩ := boxes2 w (ev nm fa fs.length cf N ba base.length cb ta ts.length ct) #[.slice ax xs.length cx] 26 27
  have hX := errorOf_any nm fa fs cf N ba base cb ta ts ct (w.heap.size + 1) 1 xs.length cx ax w4 (h.keep k04) (cells1 b4).1
  have hX2 : Calls Tryz.prog 9 #[.agg (ev nm fa fs.length cf N ba base.length cb ta ts.length ct), .slice (some ⟨w.heap.size + 1, 0, none⟩) 1 1] w4 fun e w' => e = .returned (.int .i64 (exE nm fs N base ts xs.length)) ∧ Keep w4 w' := hX
  clear hX
  obtain ⟨E, hE⟩ : ∃ E, exE nm fs N base ts xs.length = E := ⟨_, rfl⟩
  rw [hE] at hX2 he ⊢
  clear hE
  have hne : (E != 0) = true := by simpa using he
  clear he
  obtain ⟨m, hm⟩ : ∃ m, xs.length = m := ⟨_, rfl⟩
  rw [hm] at hw4 ⊢
  clear hm
  go_enter Tryz.func6, Tryz.ntmps6
  go_wp2_with (first | rw [hw4] | (go_at_call 9; refine hX2.mono ?_; rintro e w6 ⟨rfl, k6⟩))
  go_ret3
  exact ⟨rfl, k04.trans k6⟩
end Go.Proofs.YtodegcobkngmlaaGreatDoor
set_option linter.unusedVariables false
set_option linter.unusedSimpArgs false
namespace Go.Proofs.YtodegcobkngmlaaGreatDoor
open Go.RowKit Go.Shelf
def dcP (base : List Int) (ts : List (Int × List Nd)) (v : List Nd → Int) (o : Nat) (lim : Int) (k : Nat) : Prop := lim < ((beL base ts v k).getD o (0, 0)).1 ∨ ((beL base ts v k).getD o (0, 0)).2 ≤ lim
set_option maxRecDepth 100000 in
set_option maxHeartbeats 2000000 in
theorem rAbove_err (nm : ByteArray) (fa : Option Addr) (fs : List ByteArray) (cf : Nat) (N : Int) (ba : Option Addr) (base : List Int) (cb : Nat) (ta : Option Addr) (ts : List (Int × List Nd)) (ct : Nat) (ax : Option Addr) (xs : List Nat) (cx : Nat) (o lim : Int) (w : World) (h : EnA w nm fa fs ba base ta ts) (he : exE nm fs N base ts xs.length ≠ 0) :
    Calls Tryz.prog 5 #[.agg (ev nm fa fs.length cf N ba base.length cb ta ts.length ct), .slice ax xs.length cx, .int .i64 o, .int .i64 lim] w fun e w' => e = .returned (.tuple #[.bool false, .int .i64 0, .int .i64 (exE nm fs N base ts xs.length)]) ∧ Keep w w' := by
  obtain ⟨w4, hw4, k04, s4, b0, b4⟩ := boxes2 w (ev nm fa fs.length cf N ba base.length cb ta ts.length ct) #[.slice ax xs.length cx] 26 27
  have hX2 := rError_any nm fa fs cf N ba base cb ta ts ct (w.heap.size + 1) 1 xs.length cx ax w4 (h.keep k04) (cells1 b4).1
  obtain ⟨E, hE⟩ : ∃ E, exE nm fs N base ts xs.length = E := ⟨_, rfl⟩
  rw [hE] at hX2 he ⊢
  clear hE
  have hne : (E != 0) = true := by simpa using he
  clear he
  obtain ⟨m, hm⟩ : ∃ m, xs.length = m := ⟨_, rfl⟩
  rw [hm] at hw4 ⊢
  clear hm
  go_enter Tryz.func5, Tryz.ntmps5
  go_wp2_with (first | rw [hw4] | (go_at_call 12; refine hX2.mono ?_; rintro e w6 ⟨rfl, k6⟩))
  go_ret3
  exact ⟨rfl, k04.trans k6⟩
set_option maxRecDepth 100000 in
set_option maxHeartbeats 2000000 in
theorem rAbove_range (nm : ByteArray) (fa : Option Addr) (fs : List ByteArray) (cf : Nat) (N : Int) (ba : Option Addr) (base : List Int) (cb : Nat) (ta : Option Addr) (ts : List (Int × List Nd)) (ct : Nat) (ax : Option Addr) (xs : List Nat) (cx : Nat) (o lim : Int) (w : World) (h : EnA w nm fa fs ba base ta ts) (he : exE nm fs N base ts xs.length = 0) (ho : ¬ (0 ≤ o ∧ o < N)) :
    Calls Tryz.prog 5 #[.agg (ev nm fa fs.length cf N ba base.length cb ta ts.length ct), .slice ax xs.length cx, .int .i64 o, .int .i64 lim] w fun e w' => e = .returned (.tuple #[.bool false, .int .i64 0, .int .i64 2]) ∧ Keep w w' := by
  obtain ⟨w4, hw4, k04, s4, b0, b4⟩ := boxes2 w (ev nm fa fs.length cf N ba base.length cb ta ts.length ct) #[.slice ax xs.length cx] 26 27
  have hX2 := rError_any nm fa fs cf N ba base cb ta ts ct (w.heap.size + 1) 1 xs.length cx ax w4 (h.keep k04) (cells1 b4).1
  rw [he] at hX2
  obtain ⟨m, hm⟩ : ∃ m, xs.length = m := ⟨_, rfl⟩
  rw [hm] at hw4 ⊢
  clear hm
  by_cases h1 : o < 0
  · have c1 : decide (o < 0) = true := decide_eq_true h1
    clear h1 ho
    go_enter Tryz.func5, Tryz.ntmps5
    go_wp2_with (first | rw [hw4] | (go_at_call 12; refine hX2.mono ?_; rintro e w6 ⟨rfl, k6⟩))
    go_ret3
    exact ⟨rfl, k04.trans k6⟩
  · have c1 : decide (o < 0) = false := decide_eq_false h1
    have c2 : decide (o ≥ N) = true := decide_eq_true (by omega)
    clear h1 ho
    go_enter Tryz.func5, Tryz.ntmps5
    go_wp2_with (first | rw [hw4] | (go_at_call 12; refine hX2.mono ?_; rintro e w6 ⟨rfl, k6⟩; obtain ⟨y0, y1, y2, y3, y4⟩ := cells5 (k6.at b0)))
    go_ret3
    exact ⟨rfl, k04.trans k6⟩
set_option maxRecDepth 100000 in
set_option maxHeartbeats 2000000 in
/-- An output that is none. -/
theorem Above_range (nm : ByteArray) (fa : Option Addr) (fs : List ByteArray) (cf : Nat) (N : Int) (ba : Option Addr) (base : List Int) (cb : Nat) (ta : Option Addr) (ts : List (Int × List Nd)) (ct : Nat) (ax : Option Addr) (xs : List Nat) (cx : Nat) (o lim : Int) (w : World) (h : EnA w nm fa fs ba base ta ts) (he : exE nm fs N base ts xs.length = 0) (ho : ¬ (0 ≤ o ∧ o < N)) :
    Calls Tryz.prog 4 #[.agg (ev nm fa fs.length cf N ba base.length cb ta ts.length ct), .slice ax xs.length cx, .int .i64 o, .int .i64 lim] w fun e w' => e = .returned (.tuple #[.bool false, .int .i64 0, .int .i64 2]) ∧ Keep w w' := by
  obtain ⟨w4, hw4, k04, s4, b0, b1, b2, b4⟩ := boxes4 w (ev nm fa fs.length cf N ba base.length cb ta ts.length ct) (.int .i64 o) (.int .i64 lim) (.slice ax xs.length cx) 26 3 2 27
  have hX := errorOf_any nm fa fs cf N ba base cb ta ts ct (w.heap.size + 1 + 1 + 1) 1 xs.length cx ax w4 (h.keep k04) (cells1 b4).1
  have hX2 : Calls Tryz.prog 9 #[.agg (ev nm fa fs.length cf N ba base.length cb ta ts.length ct), .slice (some ⟨w.heap.size + 1 + 1 + 1, 0, none⟩) 1 1] w4 fun e w' => e = .returned (.int .i64 (exE nm fs N base ts xs.length)) ∧ Keep w4 w' := hX
  clear hX
  rw [he] at hX2
  have hO := fun wx => isOutput_any nm fa fs.length cf N ba base.length cb ta ts.length ct o wx
  rw [decide_eq_false ho] at hO
  obtain ⟨m, hm⟩ : ∃ m, xs.length = m := ⟨_, rfl⟩
  rw [hm] at hw4 ⊢
  clear hm ho
  go_enter Tryz.func4, Tryz.ntmps4
  go_wp2_with (first | rw [hw4] | (go_at_call 9; refine hX2.mono ?_; rintro e w6 ⟨rfl, k6⟩; obtain ⟨y0, y1, y2, y3, y4⟩ := cells5 (k6.at b0); have y5 := (cells1 (k6.at b1)).1) | (go_at_call 10; refine (hO _).mono ?_; rintro e w7 ⟨rfl, k7⟩))
  go_ret3
  exact ⟨rfl, k04.trans (k6.trans k7)⟩
end Go.Proofs.YtodegcobkngmlaaGreatDoor
set_option linter.unusedVariables false
set_option linter.unusedSimpArgs false
namespace Go.Proofs.YtodegcobkngmlaaGreatDoor
open Go.RowKit Go.Shelf
/-- What the first k trees say, added. -/
def psm (xs : List Nat) (ts : List (Int × List Nd)) (o : Int) : Nat → Int
  | 0 => 0
  | k + 1 => psm xs ts o k + (if (ts.getD k (0, [])).1 = o then vX xs (ts.getD k (0, [])).2 else 0)
theorem bo_psm (xs : List Nat) (ts : List (Int × List Nd)) (o : Int) : ∀ k, k ≤ ts.length → boS true (vX xs) o k ts = psm xs ts o k + boS true (vX xs) o 0 (ts.drop k)
  | 0, _ => by simp [psm]
  | k + 1, hk => by
    have hk' : k < ts.length := by omega
    rw [boS_step true (vX xs) o ts k hk', bo_psm xs ts o k (by omega), psm, List.drop_eq_getElem_cons hk', boS]
    have e : ts[k] = ts.getD k (0, []) := by simp [List.getD, hk']
    rw [e]
    simp only [if_true]
    split <;> omega
theorem bo_all (xs : List Nat) (ts : List (Int × List Nd)) (o : Int) (lo : Bool) : boS lo (vX xs) o ts.length ts = psm xs ts o ts.length := by
  rw [boS_all lo (vX xs) o ts ts.length (Nat.le_refl _), bo_psm xs ts o ts.length (Nat.le_refl _), List.drop_length, boS]
  omega
theorem sk_psm {xs : List Nat} {base : List Int} {ts : List (Int × List Nd)} {N : Int} (hN : (base.length : Int) = N) (ht : ∀ i, i < ts.length → (trB (ts.getD i (0, [])).1 N (xs.length : Int) (ts.getD i (0, [])).2 (i : Int)).1 = 0) (ho : ∀ o, o < base.length → rm base ts o < 4611686018427387904) : ∀ k, k ≤ ts.length → ∀ o, o < base.length → (sk xs base ts k).getD o 0 = base.getD o 0 + psm xs ts (o : Int) k
  | 0, _, o, _ => by simp [sk, psm]
  | k + 1, hk, o, hob => by
    have ih := sk_psm hN ht ho k (by omega)
    have h1 := ht k (by omega)
    obtain ⟨r1, r2, r3, r4⟩ := trB_ok h1
    obtain ⟨-, v1, -⟩ := lfV_eq h1
    have v2 := lf_le (xs := xs) r3
    rw [← v1] at v2
    obtain ⟨q, hq⟩ : ∃ q : Nat, (ts.getD k (0, [])).1 = (q : Int) := ⟨(ts.getD k (0, [])).1.toNat, by omega⟩
    have hqb : q < base.length := by omega
    have i1 := sk_le hN ht ho k (by omega) q hqb
    have p1 := pk_le base ts q (k + 1) hk
    rw [pk, if_pos hq] at p1
    have p2 := ho q hqb
    rw [sk, hq]
    have e : (q : Int).toNat = q := by omega
    rw [e]
    have hwr : wrap64 ((sk xs base ts k).getD q 0 + lfV (ts.getD k (0, [])).2 xs) = (sk xs base ts k).getD q 0 + lfV (ts.getD k (0, [])).2 xs := IntWalk.wrap64_in _ (by omega)
    rw [hwr, psm, hq]
    by_cases hoq : o = q
    · subst hoq
      rw [if_pos rfl, show ((sk xs base ts k).set o ((sk xs base ts k).getD o 0 + lfV (ts.getD k (0, [])).2 xs)).getD o 0 = (sk xs base ts k).getD o 0 + lfV (ts.getD k (0, [])).2 xs from by simp [List.getD, sk_len, hob], ih o hob, v1]
      unfold vX
      omega
    · rw [if_neg (by omega), show ((sk xs base ts k).set q ((sk xs base ts k).getD q 0 + lfV (ts.getD k (0, [])).2 xs)).getD o 0 = (sk xs base ts k).getD o 0 from by simp [List.getD, List.getElem?_set, Ne.symm hoq], ih o hob]
      omega
/-- The score and the spans of a right ensemble. -/
structure ScE (base : List Int) (ts : List (Int × List Nd)) (xs : List Nat) (s : List Int) : Prop where
  len : s.length = base.length
  lo : ∀ k, k ≤ ts.length → ∀ o, o < base.length → ((beL base ts (vX xs) k).getD o (0, 0)).1 ≤ s.getD o 0
  hi : ∀ k, k ≤ ts.length → ∀ o, o < base.length → s.getD o 0 ≤ ((beL base ts (vX xs) k).getD o (0, 0)).2
  rl : ∀ k, k < ts.length → ∀ o, o < base.length → ((beL base ts (vX xs) k).getD o (0, 0)).1 ≤ ((beL base ts (vX xs) (k + 1)).getD o (0, 0)).1
  rh : ∀ k, k < ts.length → ∀ o, o < base.length → ((beL base ts (vX xs) (k + 1)).getD o (0, 0)).2 ≤ ((beL base ts (vX xs) k).getD o (0, 0)).2
  al : ∀ o, o < base.length → (beL base ts (vX xs) ts.length).getD o (0, 0) = (s.getD o 0, s.getD o 0)
theorem up_to {f : Nat → Int} {n : Nat} (h : ∀ k, k < n → f k ≤ f (k + 1)) : ∀ d k, k + d = n → f k ≤ f n
  | 0, k, e => by rw [show k = n by omega]; exact Int.le_refl _
  | d + 1, k, e => Int.le_trans (h k (by omega)) (up_to h d (k + 1) (by omega))
theorem scE {nm : ByteArray} {fs : List ByteArray} {N : Int} {base : List Int} {ts : List (Int × List Nd)} {xs : List Nat} (h : (chB nm fs N base ts).1 = 0) (hx : xs.length = fs.length) : (scS fs.length N base ts xs).2 = 0 ∧ ScE base ts xs (scS fs.length N base ts xs).1 := by
  have R := rtE h hx
  obtain ⟨-, ⟨h1, h2⟩, h3, h4, -, h5, h6⟩ := chB_ok h
  rw [← hx] at h5
  have hs : scS fs.length N base ts xs = (sk xs base ts ts.length, 0) := by
    unfold scS
    rw [if_neg (by omega), if_neg (by omega)]
    exact scF_sk h5 ts.length 0 (by omega)
  rw [hs]
  have hal : ∀ o, o < base.length → (beL base ts (vX xs) ts.length).getD o (0, 0) = ((sk xs base ts ts.length).getD o 0, (sk xs base ts ts.length).getD o 0) := by
    intro o ho
    rw [beL_at base ts (vX xs) ts.length o ho, bo_all, bo_all, sk_psm h3 h5 R.rm ts.length (Nat.le_refl _) o ho]
  have rl : ∀ o, o < base.length → ∀ k, k < ts.length → ((beL base ts (vX xs) k).getD o (0, 0)).1 ≤ ((beL base ts (vX xs) (k + 1)).getD o (0, 0)).1 := by
    intro o ho k hk
    rw [beL_at base ts (vX xs) k o ho, beL_at base ts (vX xs) (k + 1) o ho]
    have := (boS_rise (vX xs) (o : Int) ts R.sv k hk).1
    simp only
    omega
  have rh : ∀ o, o < base.length → ∀ k, k < ts.length → - ((beL base ts (vX xs) k).getD o (0, 0)).2 ≤ - ((beL base ts (vX xs) (k + 1)).getD o (0, 0)).2 := by
    intro o ho k hk
    rw [beL_at base ts (vX xs) k o ho, beL_at base ts (vX xs) (k + 1) o ho]
    have := (boS_rise (vX xs) (o : Int) ts R.sv k hk).2
    simp only
    omega
  refine ⟨rfl, sk_len xs base ts ts.length, ?_, ?_, fun k hk o ho => rl o ho k hk, fun k hk o ho => by have := rh o ho k hk; omega, hal⟩
  · intro k hk o ho
    have := up_to (f := fun k => ((beL base ts (vX xs) k).getD o (0, 0)).1) (rl o ho) (ts.length - k) k (by omega)
    rw [hal o ho] at this
    exact this
  · intro k hk o ho
    have := up_to (f := fun k => - ((beL base ts (vX xs) k).getD o (0, 0)).2) (rh o ho) (ts.length - k) k (by omega)
    rw [hal o ho] at this
    simp only at this ⊢
    omega
end Go.Proofs.YtodegcobkngmlaaGreatDoor
