import Derived.Test.YtmkanofeencgpaaDoorG3
set_option linter.unusedVariables false
set_option linter.unusedSimpArgs false
namespace Go.Proofs.YtmkanofeencgpaaDoor
open Go.RowKit Go.Shelf
attribute [local go_sem] run_store_func run_store_float
/-- What of an ensemble can be read. -/
structure EnR (w : World) (ba : Option Addr) (base : List Int) (ta : Option Addr) (ts : List (Int × List Nd)) : Prop where
  bl : base.length ≤ 17592186044416
  rb : RdI w ba base
  bb : ∀ x ∈ base, -9223372036854775808 ≤ x ∧ x ≤ 9223372036854775807
  tl : ts.length ≤ 4398046511104
  tn : ∀ j, j < ts.length → (ts.getD j (0, [])).2.length ≤ 1759218604441
  rt : RdT w ta ts
theorem EnR.keep {w w' : World} {ba : Option Addr} {base : List Int} {ta : Option Addr} {ts : List (Int × List Nd)} (h : EnR w ba base ta ts) (k : Keep w w') : EnR w' ba base ta ts := ⟨h.bl, h.rb.keep k, h.bb, h.tl, h.tn, h.rt.keep k⟩
def okS (base : List Int) (ts : List (Int × List Nd)) (o : Nat) : Bool := decide (rm base ts o < 4611686018427387904)
set_option maxRecDepth 100000 in
set_option maxHeartbeats 1000000 in
theorem out_ans {w : World} {ge go : Nat} {nm : ByteArray} {fa : Option Addr} {Fn cf : Nat} {N : Int} {ba : Option Addr} {base : List Int} {cb : Nat} {ta : Option Addr} {ts : List (Int × List Nd)} {ct o : Nat}
    (he : w.heap[ge]? = some (.cells (ev nm fa Fn cf N ba base.length cb ta ts.length ct) 26 (0, 0))) (hg : w.heap[go]? = some (.cells #[.int .i64 (o : Int)] 3 (0, 0))) (ho : o < base.length) (hE : EnR w ba base ta ts) : Ans w (31, 65, #[pv ge, pv go]) (okS base ts o) := by
  refine ⟨fun wx => by kernel_rfl, fun wx k => ?_⟩
  obtain ⟨c0, c1, c2, c3, c4⟩ := cells5 (k.at he)
  obtain ⟨d0, -⟩ := cells1 (k.at hg)
  have hEx := hE.keep k
  have hRm := Room_any nm fa Fn cf N ba base cb ta ts ct o wx ho hEx.bl hEx.rb hEx.bb hEx.tl hEx.tn hEx.rt
  have HO : Hid (okS base ts o = decide (rm base ts o < 4611686018427387904)) := rfl
  generalize okS base ts o = O at HO ⊢
  generalize rm base ts o = r at hRm HO
  show Calls Tryd.prog 65 #[.pointer (some ⟨ge, 0, none⟩), .pointer (some ⟨go, 0, none⟩)] wx _
  go_enter Tryd.func65, Tryd.ntmps65
  go_wp2_with (first
    | (go_at_call 14; refine hRm.mono ?_; rintro e w1 ⟨v1, rfl, N1, hb1, k1⟩
       have hFr := From_nv 4611686018427387904 w1 (by omega))
    | (go_at_call 36; refine hFr.mono ?_; rintro e w2 ⟨v2, rfl, N2, k2⟩
       have hCm := Cmp_nv r 4611686018427387904 v1 v2 w2 (N1.keep k2) N2 (by omega) (by omega))
    | (go_at_call 66; refine hCm.mono ?_; rintro e w3 ⟨⟨c, rfl, hc⟩, k3⟩; replace hc : Hid _ := hc))
  go_ret
  refine ⟨?_, k1.trans (k2.trans k3)⟩
  rw [HO.out]
  refine ret_bool ?_
  rw [decide_eq_decide]
  exact hc.out
/-- The outputs' rule, one by one. -/
def ouF (base : List Int) (ts : List (Int × List Nd)) : Nat → Nat → Bk
  | 0, _ => (0, 0, 0)
  | f + 1, k => if okS base ts k = true then ouF base ts f (k + 1) else (31, -1, (k : Int))
def ouB (base : List Int) (ts : List (Int × List Nd)) : Bk := ouF base ts base.length 0
structure OIu (w wr : World) (cs : Array Value) : Prop where
  kp : Keep w wr
  b0 : wr.heap[w.heap.size]? = some (.cells cs 26 (0, 0))
  b1 : wr.heap[w.heap.size + 1]? = some (.cells #[.int .i64 0, .int .i64 0, .int .i64 0] 30 (0, 0))
  b2 : ∃ v, wr.heap[w.heap.size + 1 + 1]? = some (.cells #[v] 3 (0, 0))
  b3 : wr.heap[w.heap.size + 1 + 1 + 1]? = some (.cells #[.int .i64 31, .func (.func 65) #[] #[pv w.heap.size, pv (w.heap.size + 1 + 1)]] 97 (0, 0))
theorem OIu.keep {w wr w' : World} {cs : Array Value} (h : OIu w wr cs) (q : Keep wr w') : OIu w w' cs := by
  obtain ⟨v, hv⟩ := h.b2
  exact ⟨h.kp.trans q, q.at h.b0, q.at h.b1, ⟨v, q.at hv⟩, q.at h.b3⟩
theorem OIu.num {w wr : World} {cs : Array Value} (h : OIu w wr cs) (v : Value) : OIu w (wr.setCell ⟨w.heap.size + 1 + 1, 0, none⟩ v) cs ∧ (wr.setCell ⟨w.heap.size + 1 + 1, 0, none⟩ v).heap[w.heap.size + 1 + 1]? = some (.cells #[v] 3 (0, 0)) := by
  have e := neq_set wr (w.heap.size + 1 + 1) 0 v
  obtain ⟨x, hv⟩ := h.b2
  have hn := heap1 wr _ v hv
  exact ⟨⟨h.kp.setCell (p := ⟨w.heap.size + 1 + 1, 0, none⟩) (by show w.heap.size ≤ w.heap.size + 1 + 1; omega) _, (e _ (by omega)).trans h.b0, (e _ (by omega)).trans h.b1, ⟨_, hn⟩, (e _ (by omega)).trans h.b3⟩, hn⟩
set_option maxRecDepth 100000 in
set_option maxHeartbeats 2000000 in
theorem ofOutputs_any (nm : ByteArray) (fa : Option Addr) (Fn cf : Nat) (ba : Option Addr) (base : List Int) (cb : Nat) (ta : Option Addr) (ts : List (Int × List Nd)) (ct : Nat) (w : World) (hE : EnR w ba base ta ts) :
    Calls Tryd.prog 34 #[.agg (ev nm fa Fn cf (base.length : Int) ba base.length cb ta ts.length ct)] w fun e w' => e = .returned (bkV (ouB base ts)) ∧ Keep w w' := by
  obtain ⟨B, HB⟩ : ∃ B, Hid (B = ouF base ts base.length 0) := ⟨_, rfl⟩
  have HG : Hid (ouB base ts = B) := HB.out.symm
  rw [HG.out]
  clear HG
  have hbl := hE.bl
  obtain ⟨w1, hw1, k1, t1, s1⟩ := boxed w (ev nm fa Fn cf (base.length : Int) ba base.length cb ta ts.length ct) 26
  obtain ⟨w2, hw2, k2, t2, s2⟩ := boxed w1 #[.int .i64 0, .int .i64 0, .int .i64 0] 30
  obtain ⟨w3, hw3, k3, t3, s3⟩ := boxed w2 #[.int .i64 0] 3
  rw [s1] at t2 s2
  rw [s2] at t3 s3
  obtain ⟨w4, hw4, k4, t4, s4⟩ := boxed w3 #[.int .i64 31, .func (.func 65) #[] #[pv w.heap.size, pv (w.heap.size + 1 + 1)]] 97
  rw [s3] at t4 s4
  have k14 := k2.trans (k3.trans k4)
  have hI : OIu w w4 (ev nm fa Fn cf (base.length : Int) ba base.length cb ta ts.length ct) := ⟨k1.trans k14, k14.at t1, (k3.trans k4).at t2, ⟨_, k4.at t3⟩, t4⟩
  obtain ⟨z0, z1, z2, z3, z4⟩ := cells5 hI.b0
  replace hI : Hid _ := hI
  clear t1 t2 t3 t4
  go_enter Tryd.func34, Tryd.ntmps34
  go_wp2_with (first | rw [hw1] | rw [hw2] | rw [hw3])
  clear z0 z1 z2 z3 z4
  go_loopw [11] (fun i wr => ∃ k : Nat, i = .int .i64 (k : Int) ∧ k ≤ base.length ∧ Hid (B = ouF base ts (base.length - k) k) ∧ Hid (OIu w wr (ev nm fa Fn cf (base.length : Int) ba base.length cb ta ts.length ct))) (fun i wr => base.length - (intOf i).toNat)
  case atStart => exact ⟨0, rfl, by omega, HB, hI⟩
  case round =>
    obtain ⟨k, rfl, hk, H, I⟩ := hrel
    by_cases hlt : k < base.length
    · have hltc : (k : Int) < (base.length : Int) := by omega
      obtain ⟨v2, hv2⟩ := I.out.b2
      obtain ⟨d2, f2⟩ := cells1 hv2
      have H1 : Hid (ouF base ts (base.length - k) k = if okS base ts k = true then ouF base ts (base.length - (k + 1)) (k + 1) else (31, -1, (k : Int))) := by
        rw [show base.length - k = (base.length - (k + 1)) + 1 by omega, ouF]; rfl
      have HK : Hid (k < base.length) := hlt
      obtain ⟨I7, n7⟩ := I.out.num (.int .i64 (k : Int))
      obtain ⟨w7, hw7⟩ : ∃ w7, wr.setCell ⟨w.heap.size + 1 + 1, 0, none⟩ (.int .i64 (k : Int)) = w7 := ⟨_, rfl⟩
      rw [hw7] at I7 n7
      obtain ⟨a2, -⟩ := cells1 n7
      have hR : RdR w7 (some ⟨w.heap.size + 1 + 1 + 1, 0, none⟩) [(31, 65, #[pv w.heap.size, pv (w.heap.size + 1 + 1)])] := rdR_of I7.b3 (by
        intro j hj
        match j, hj with
        | 0, _ => exact ⟨rfl, rfl⟩)
      have hF := first_any (some ⟨w.heap.size + 1 + 1 + 1, 0, none⟩) 1 _ (bsl [okS base ts k]) (-1) (k : Int) w7 hR (by simp) (by
        intro j hj
        match j, hj with
        | 0, _ => exact out_ans I7.b0 n7 hlt (hE.keep I7.kp))
      have HE : Hid (fsB [(31, 65, #[pv w.heap.size, pv (w.heap.size + 1 + 1)])] (bsl [okS base ts k]) (-1) (k : Int) = if okS base ts k = true then (0, 0, 0) else (31, -1, (k : Int))) := rfl
      rw [HE.out] at hF
      clear HE hR hlt
      cases hb : okS base ts k with
      | true =>
        rw [hb] at hF H1
        change Calls Tryd.prog 54 _ w7 (fun e w' => e = .returned (.agg #[.int .i64 0, .int .i64 0, .int .i64 0]) ∧ Keep w7 w') at hF
        go_wp2_with (first
          | (go_at_call 54; refine hF.mono ?_; rintro e w8 ⟨rfl, k8⟩
             obtain ⟨w9, wA, hw9, hwA, kA, tA, q0, q1, q2, g0, g1, g2⟩ := boxB w8 (.int .i64 0) (.int .i64 0) (.int .i64 0)
             obtain ⟨c0, c1, c2, -, -, -⟩ := cells3 tA))
        go_roundw
        case rel => exact ⟨k + 1, by go_num, by have := HK.out; omega, by unfold Hid; rw [H.out, H1.out, if_pos trivial], (I7.keep k8).keep kA⟩
        case measure => have := HK.out; simp [intOf]; omega
      | false =>
        rw [hb] at hF H1
        change Calls Tryd.prog 54 _ w7 (fun e w' => e = .returned (.agg #[.int .i64 31, .int .i64 (-1), .int .i64 (k : Int)]) ∧ Keep w7 w') at hF
        go_wp2_with (first
          | (go_at_call 54; refine hF.mono ?_; rintro e w8 ⟨rfl, k8⟩
             obtain ⟨w9, wA, hw9, hwA, kA, tA, q0, q1, q2, g0, g1, g2⟩ := boxB w8 (.int .i64 31) (.int .i64 (-1)) (.int .i64 (k : Int))
             obtain ⟨c0, c1, c2, -, -, -⟩ := cells3 tA
             have I9 := (I7.keep k8).keep kA
             obtain ⟨d0, d1, d3, p0, p1, p2⟩ := cells3 I9.b1))
        have h := heap3 wA (w.heap.size + 1) (.int .i64 31) (.int .i64 (-1)) (.int .i64 (k : Int)) I9.b1
        have kk := keep3 I9.kp (w.heap.size + 1) (by omega) (.int .i64 31) (.int .i64 (-1)) (.int .i64 (k : Int))
        refine bodyPost_ret (ret_bk rfl _ _ (w.heap.size + 1) _ _ _ rfl h) rfl ⟨?_, kk⟩
        rw [H.out, H1.out, if_neg (by simp)]
    · have hltc : ¬ (k : Int) < (base.length : Int) := by omega
      have H1 : Hid (B = (0, 0, 0)) := by unfold Hid; rw [H.out, show base.length - k = 0 by omega]; rfl
      obtain ⟨c0, c1, c2, f0, f1, f2⟩ := cells3 I.out.b1
      clear hlt
      go_wp2_with fail
      have h := heap3 wr (w.heap.size + 1) (.int .i64 0) (.int .i64 0) (.int .i64 0) I.out.b1
      have kk := keep3 I.out.kp (w.heap.size + 1) (by omega) (.int .i64 0) (.int .i64 0) (.int .i64 0)
      refine bodyPost_ret (ret_bk rfl _ _ (w.heap.size + 1) _ _ _ rfl h) rfl ⟨?_, kk⟩
      rw [H1.out]
end Go.Proofs.YtmkanofeencgpaaDoor
