import Derived.Test.YtodegcobkngmlaaGreatDoorProg
import Derived.Test.YtodegcobkngmlaaGreatDoorCS17
import Derived.WalkKit
import Derived.WalkSpells
import Derived.WalkLawsBesides
import Derived.Deep.Draws
import Derived.Deep.QuietTactic
import Derived.BigQuiet
import Derived.Laws.Externs
import Derived.Laws.CopyOwn
import Derived.Shelf.Abstract
import Derived.Deep.RegionLaw
import Derived.BigRegion
import Derived.Deep.RegionHeld3
import Derived.RangeFuncBox
import Derived.RangeFuncLeaves
import Derived.RangeFuncCalls
import Derived.RangeFuncRecord
import Derived.Below
import Derived.OwnWalkIn
import Derived.TacticsInMore
import Derived.LoopNIn
import Derived.LoopIn
import Derived.Sort.LoopGhostIn
import Derived.Deep.RegionWith
import Derived.Stop.RegionWithIn
import Derived.Laws.MathBits
import Derived.Maps.OwnSet
import Derived.StringKeys
import Derived.RegionTactic
import Derived.Orders
import Derived.OrdersIn
import Derived.RegionIn
import Ieee.Arith
import Derived.Laws.StructEq
import Derived.Lib.BufferWrite
import Derived.Lib.UnsafeStr
import Derived.Laws.MakeOwn
import Derived.Deep.CutBlock
import Derived.Deep.CutRange
import Derived.WalkMore
set_option linter.unusedVariables false
set_option linter.unusedSimpArgs false
namespace Go.Proofs.YtodegcobkngmlaaGreatDoor
open Go.RowKit Go.Shelf
attribute [local go_sem] Oper.semAt_some
/-- The output that is certain to be the greatest behind so many trees. -/
def crF (base : List Int) (ts : List (Int × List Nd)) (v : List Nd → Int) (k : Nat) : Nat × Bool := grF (beL base ts v k) base.length 0
set_option maxRecDepth 100000 in
set_option maxHeartbeats 2000000 in
theorem Class_in (f : Nat) (hf : 5 ≤ f) (nm : ByteArray) (fa : Option Addr) (fs : List ByteArray) (cf : Nat) (N : Int) (ba : Option Addr) (base : List Int) (cb : Nat) (ta : Option Addr) (ts : List (Int × List Nd)) (ct : Nat) (ax : Option Addr) (xs : List Nat) (cx : Nat) (w : World) (h : EnA w nm fa fs ba base ta ts) (hx : RdF w ax xs) (he : exE nm fs N base ts xs.length = 0) (R : RtE N base ts xs) (hxl : xs.length ≤ 17592186044416) :
    CallsIn Fence.wide f Tryz.prog 6 #[.agg (ev nm fa fs.length cf N ba base.length cb ta ts.length ct), .slice ax xs.length cx] w fun e w' => Keep w w' ∧ ∃ k, k ≤ ts.length ∧ e = .returned (.tuple #[.int .i64 (((crF base ts (vX xs) k).1 : Nat) : Int), .int .i64 (k : Int), .int .i64 0]) ∧ ((crF base ts (vX xs) k).2 = true ∨ k = ts.length) ∧ ∀ j, j < k → (crF base ts (vX xs) j).2 = false := by
  have h1 : 1 ≤ f := by omega
  obtain ⟨w4, hw4, k04, s4, b0, b4⟩ := boxes2 w (ev nm fa fs.length cf N ba base.length cb ta ts.length ct) #[.slice ax xs.length cx] 26 27
  have hX := errorOf_any nm fa fs cf N ba base cb ta ts ct (w.heap.size + 1) 1 xs.length cx ax w4 (h.keep k04) (cells1 b4).1
  have hX2 : Calls Tryz.prog 9 #[.agg (ev nm fa fs.length cf N ba base.length cb ta ts.length ct), .slice (some ⟨w.heap.size + 1, 0, none⟩) 1 1] w4 fun e w' => e = .returned (.int .i64 (exE nm fs N base ts xs.length)) ∧ Keep w4 w' := hX
  clear hX
  rw [he] at hX2
  obtain ⟨m, hm⟩ : ∃ m, xs.length = m := ⟨_, rfl⟩
  have hmH : Hid (xs.length = m) := hm
  have hbH : Hid ((base.length : Int) = N) := R.nb
  rw [hm] at hw4 ⊢
  clear hm
  refine callsIn_of_wp_marks Tryz.func6 rfl trivial ?_ rfl
  simp only [Tryz.ntmps6, List.size_toArray, List.length_cons, List.length_nil, Nat.reduceAdd, Nat.reduceSub, Array.replicate_succ, Array.replicate_zero, List.push_toArray, List.append_toArray, List.nil_append, List.cons_append]
  gi_wp2_with (first | rw [hw4] | (refine ⟨trivial, ?_⟩; gi_at_call 9; refine (callsIn_wide.2 hX2).mono ?_; rintro e w7 ⟨rfl, k7⟩; obtain ⟨wB, hwB, kB, sB, bB1, bB2⟩ := boxes2 w7 #[.int .i64 0] #[.int .i64 0] 3 3; obtain ⟨r1, r2, wS, hwS, bS1, bS2, oS, sS, kS⟩ := put11 bB1 bB2 (by omega) (.int .i64 0) (.int .i64 0); obtain ⟨r3, r4⟩ := cells1 bB1; have kS7 := kS w7 kB (by omega) (by omega); obtain ⟨v0, v1, v2, v3, v4⟩ := cells5 (kS7.at (k7.at b0))) | (refine ⟨trivial, ?_⟩; gi_at_call 11; refine (behind_in (f - 1) _ _ _ _ _).mono ?_; rintro e w' ⟨rfl, rfl⟩))
  obtain ⟨w9, hw9, k9, s9, tA, tX⟩ := boxes2 wS #[.string nm, .slice fa fs.length cf, .int .i64 N, .slice ba base.length cb, .slice ta ts.length ct] #[.slice ax m cx] 26 27
  rw [hw9]
  clear hw9 hwB hwS hw4 hX2 v0 v1 v2 v3 v4 r1 r2 r3 r4 kS oS bB1 bB2 kB
  rw [sB] at sS
  clear sB
  have k07 : Keep w w7 := k04.trans k7
  obtain ⟨p, hp⟩ : ∃ p, w7.heap.size = p := ⟨_, rfl⟩
  rw [hp] at sS bS1 bS2 ⊢
  have e9 : w9.heap.size = p + 4 := by omega
  rw [sS] at tX tA
  have z7 : w.heap.size + 2 ≤ p := by have := k7.le; omega
  have bC1 := k9.at bS1
  have bC2 := k9.at bS2
  have k79 : Keep w7 w9 := kS7.trans k9
  clear b0 b4 k7 k04 kS7 k9 bS1 bS2 s4 s9 sS
  have hEn := h.keep k07
  have hsq := behind_seq w7 (f - 1) (by omega) (p + 2) (p + 2 + 1) nm fa fs.length cf ba base cb ta ts ct ax cx xs hxl (vX xs) R.nl hEn.er.rb hEn.er.rt R.tl R.tn R.ho R.rm R.va (fun _ _ => rfl) R.se R.ft w9 (by rw [R.nb]; exact tA) (by rw [hmH.out]; exact tX) (by omega) (by omega) k79 (hx.keep k07)
  have hnl := R.nl
  refine wp_rangeM h1 (gf := 19) (lb := #[.pointer (some ⟨p + 2, 0, none⟩), .pointer (some ⟨p + 2 + 1, 0, none⟩)]) rfl (enters_of Tryz.func19 (by kernel_rfl) rfl)
    hsq (MB_stable _ _ _) (Below.refl _ _) (fun _ => rfl) (by omega) (fun g hg => by omega)
    (fun pre T W => ∃ c k, KpC w7 p 3 3 (.int .i64 ((c : Nat) : Int)) (.int .i64 ((k : Nat) : Int)) T W ∧ (∀ x ∈ pre, (crF base ts (vX xs) x.1).2 = false) ∧ (pre ≠ [] → (∃ g, pre.getLast? = some (k, g)) ∧ c = (crF base ts (vX xs) k).1))
    (fun c pre W => c = .exit 0 ∧ ∃ c k g, W.heap[p]? = some (.cells #[.int .i64 ((c : Nat) : Int)] 3 (0, 0)) ∧ W.heap[p + 1]? = some (.cells #[.int .i64 ((k : Nat) : Int)] 3 (0, 0)) ∧ Keep w7 W ∧ p + 2 ≤ W.heap.size ∧ pre.getLast? = some (k, g) ∧ c = (crF base ts (vX xs) k).1 ∧ (crF base ts (vX xs) k).2 = true ∧ ∀ x ∈ pre.dropLast, (crF base ts (vX xs) x.1).2 = false)
    ?i1 ?i2 ?ix2 ?start ?a1 ?assign ?body ?done ?stop
  case i1 =>
    rintro pre T A B ⟨b, k, q1, q2, q3⟩ hst
    exact ⟨b, k, q1.st hp hst, q2, q3⟩
  case i2 =>
    rintro pre T A r o' ⟨b, k, q1, q2, q3⟩ r1 r2 r3
    exact ⟨b, k, q1.put hp (by omega), q2, q3⟩
  case assign =>
    intro l x W K hK
    gi_wp2
    exact hK
  case start =>
    intro W hst
    have kp : ∀ g, g < w9.heap.size → W.heap[g]? = w9.heap[g]? := fun g hg => hst.block g hg (fun h => h)
    refine ⟨0, 0, ⟨⟨hst.os.trans k79.os, hst.tape.trans k79.tape, hst.output.trans k79.output, by have := hst.size; have := k79.size; omega, fun g hg => (kp g (by omega)).trans (k79.block g hg)⟩, fun g hg => by omega, (kp _ (by omega)).trans bC1, (kp _ (by omega)).trans bC2, by have := hst.size; omega⟩, by simp, fun h => absurd rfl h⟩
  case ix2 =>
    rintro c pre A r o' ⟨rfl, b, k, g, q1, q2, q3, q4, q5⟩ r1 r2 r3
    have kp : ∀ j, j < p + 2 → (A.putObj r o').heap[j]? = A.heap[j]? := fun j hj => World.putObj_heap_other (by omega)
    exact ⟨rfl, b, k, g, (kp _ (by omega)).trans q1, (kp _ (by omega)).trans q2, put_keep q3 (by omega), by simpa using q4, q5⟩
  case body =>
    rintro l pre ⟨k, g⟩ T W ⟨b, k', hC, hpre, hlast⟩ hM hpl hT hsz
    clear hsq tA tX bC1 bC2 k79 hEn h hx R he hxl
    have kW : Keep w7 W := hC.be
    obtain ⟨hTg, hg⟩ := hM
    replace hTg : T g := hTg
    replace hg : W.heap[g]? = some (.cells (VB (beL base ts (vX xs) k)).toArray 42 (0, 0)) := hg
    have hgT := hC.tb g hTg
    have hll := beL_len base ts (vX xs) k
    have hG := greatest_any g base.length (beL base ts (vX xs) k) W (by omega) hg
    rw [hll] at hG
    replace hG : Calls Tryz.prog 14 #[.slice (some ⟨g, 0, none⟩) base.length base.length] W fun e w' => e = .returned (.tuple #[.int .i64 (((crF base ts (vX xs) k).1 : Nat) : Int), .bool (crF base ts (vX xs) k).2]) ∧ Keep W w' := hG
    obtain ⟨⟨c, bb⟩, hcb⟩ : ∃ cb, crF base ts (vX xs) k = cb := ⟨_, rfl⟩
    rw [hcb] at hG
    have HCB : Hid (crF base ts (vX xs) k = (c, bb)) := hcb
    have h12 : 1 ≤ f - 1 - 1 := by omega
    have HW : Hid (∀ W2, Keep W W2 → ∃ wz, ((W2.setCell ⟨p, 0, none⟩ (.int .i64 ((c : Nat) : Int))).setCell ⟨p + 1, 0, none⟩ (.int .i64 ((k : Nat) : Int))) = wz ∧ W2.cell? ⟨p, 0, none⟩ = some (.int .i64 ((b : Nat) : Int)) ∧ W2.frozen? ⟨p, 0, none⟩ = false ∧ (W2.setCell ⟨p, 0, none⟩ (.int .i64 ((c : Nat) : Int))).cell? ⟨p + 1, 0, none⟩ = some (.int .i64 ((k' : Nat) : Int)) ∧ (W2.setCell ⟨p, 0, none⟩ (.int .i64 ((c : Nat) : Int))).frozen? ⟨p + 1, 0, none⟩ = false ∧ (Kpt w7.heap.size T W wz ∧ ((wz.heap[w9.heap.size]? = W.heap[w9.heap.size]? ∧ wz.heap[w9.heap.size + 1]? = W.heap[w9.heap.size + 1]?)) ∧ KpC w7 p 3 3 (.int .i64 ((c : Nat) : Int)) (.int .i64 ((k : Nat) : Int)) T wz)) := by
      intro W2 k2
      have hsz2 := k2.le
      obtain ⟨p1, p2, wz, hwz, q1, q2, q3, q4, q5⟩ := put11 (k2.at hC.b1) (k2.at hC.b2) (by omega) (.int .i64 ((c : Nat) : Int)) (.int .i64 ((k : Nat) : Int))
      obtain ⟨e1, e2⟩ := cells1 (k2.at hC.b1)
      have kz := q5 w7 (kW.trans k2) (by omega) (by omega)
      have hCz := hC.sz
      have nk : ∀ j : Nat, j < W.heap.size → j ≠ p → j ≠ p + 1 → wz.heap[j]? = W.heap[j]? := fun j j0 j1 j2 => (q3 j j1 j2).trans (k2.block j j0)
      refine ⟨wz, hwz, e1, e2, p1, p2, ⟨kz.os.trans kW.os.symm, kz.tape.trans kW.tape.symm, kz.output.trans kW.output.symm, by omega, fun j hj hjT => ?_⟩, ⟨nk _ (by omega) (by omega) (by omega), nk _ (by omega) (by omega) (by omega)⟩, kz, hC.tb, q1, q2, by omega⟩
      refine nk j hj ?_ ?_
      · rcases hjT with q | q
        · omega
        · have := hC.tb j q; omega
      · rcases hjT with q | q
        · omega
        · have := hC.tb j q; omega
    clear hcb hll hlast
    replace hpre : Hid _ := hpre
    replace hT : Hid _ := hT
    simp only [yB]
    generalize Value.agg (ev nm fa fs.length cf N ba base.length cb ta ts.length ct) = V1
    generalize Value.agg #[Value.string nm, Value.slice fa fs.length cf, Value.int IntKind.i64 N, Value.slice ba base.length cb, Value.slice ta ts.length ct] = V2
    cases bb with
    | true =>
      gi_wp2_with (refine ⟨trivial, ?_⟩; gi_at_call 14; refine (CallsIn.inRound l (callsIn_wide.2 hG)).mono ?_; rintro e W2 ⟨rfl, k2⟩; obtain ⟨wz, hwz, e1, e2, e3, e4, HI⟩ := HW.out W2 k2; replace HI : Hid _ := HI)
      unfold postT
      obtain ⟨g1, g2, g3⟩ := HI.out
      exact ⟨g2, rfl, c, k, g, g3.b1, g3.b2, g3.be, by have := g3.sz; omega, by simp, by rw [HCB.out], by rw [HCB.out], by simpa using hpre.out⟩
    | false =>
      gi_wp2_with (refine ⟨trivial, ?_⟩; gi_at_call 14; refine (CallsIn.inRound l (callsIn_wide.2 hG)).mono ?_; rintro e W2 ⟨rfl, k2⟩; obtain ⟨wz, hwz, e1, e2, e3, e4, HI⟩ := HW.out W2 k2; replace HI : Hid _ := HI)
      unfold postT
      obtain ⟨g1, g2, g3⟩ := HI.out
      refine ⟨g2, g1, c, k, g3, ?_, fun _ => ⟨⟨g, by simp⟩, by rw [HCB.out]⟩⟩
      intro x hx
      rcases List.mem_append.1 hx with q | q
      · exact hpre.out x q
      · rw [List.mem_singleton.1 q, HCB.out]
  case done =>
    rintro xs' T W ⟨g, rfl⟩ ⟨b, k, hC, hpre, hlast⟩ hD
    obtain ⟨⟨g', hl1⟩, hl2⟩ := hlast (by rw [List.range_succ]; simp)
    have hkt : Hid (k = ts.length) := by
      have : ((List.range (ts.length + 1)).map fun k => (k, g)).getLast? = some (ts.length, g) := by rw [List.range_succ]; simp
      rw [this] at hl1
      show _ = _
      have := (Prod.mk.inj (Option.some.inj hl1)).1
      exact this.symm
    have HB : Hid (b = (crF base ts (vX xs) k).1) := hl2
    have HP : Hid (∀ j, j < k → (crF base ts (vX xs) j).2 = false) := by
      intro j hj
      exact hpre (j, g) (List.mem_map.2 ⟨j, by have := hkt.out; simp; omega, rfl⟩)
    clear hl1 hl2 hpre hlast
    have kW : Keep w7 W := hC.be
    have e1 := (cells1 hC.b1).1
    have e2 := (cells1 hC.b2).1
    have hD9 : W.drew.heap[w9.heap.size]? = some (.deferred (some [])) := hD
    have kd : Keep w W.drew := (k07.trans kW).drew
    gi_wp2
    apply wpIn_to
    · gi_region
      all_goals exact ⟨rfl, rfl, rfl⟩
    gi_wp2
    refine ⟨by simp, .inl ⟨_, _, rfl, run_takeDeferred hD9, ?_⟩⟩
    refine ⟨_, results_tmp3 rfl _ _ _, put_keep kd (by omega), k, by have := hkt.out; omega, ?_, .inr hkt.out, HP.out⟩
    rw [← HB.out]
    rfl
  case stop =>
    rintro c pre W ⟨g, k, hk, rfl⟩ ⟨rfl, b, k', g', q1, q2, q3, q4, q5, q6, q7, q8⟩ hD
    have hkk : Hid (k = k') := by
      have : ((List.range (k + 1)).map fun k => (k, g)).getLast? = some (k, g) := by rw [List.range_succ]; simp
      rw [this] at q5
      show _ = _
      exact (Prod.mk.inj (Option.some.inj q5)).1
    have HB : Hid (b = (crF base ts (vX xs) k').1) := q6
    have HP : Hid (∀ j, j < k' → (crF base ts (vX xs) j).2 = false) := by
      intro j hj
      refine q8 (j, g) ?_
      have := hkk.out
      rw [List.range_succ, List.map_append, List.map_singleton, List.dropLast_concat]
      exact List.mem_map.2 ⟨j, by simp; omega, rfl⟩
    have HD : Hid ((crF base ts (vX xs) k').2 = true) := q7
    clear q5 q6 q7 q8
    have e1 := (cells1 q1).1
    have e2 := (cells1 q2).1
    have hD9 : W.drew.heap[w9.heap.size]? = some (.deferred (some [])) := hD
    have kd : Keep w W.drew := (k07.trans q3).drew
    gi_wp2
    apply wpIn_to
    · gi_region
      all_goals exact ⟨rfl, rfl, rfl⟩
    gi_wp2
    refine ⟨by simp, .inl ⟨_, _, rfl, run_takeDeferred hD9, ?_⟩⟩
    refine ⟨_, results_tmp3 rfl _ _ _, put_keep kd (by omega), k', by have := hkk.out; omega, ?_, .inl HD.out, HP.out⟩
    rw [← HB.out]
    rfl
end Go.Proofs.YtodegcobkngmlaaGreatDoor
