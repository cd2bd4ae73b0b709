import Derived.Test.YtmkanofeencgpaaDoorV4
set_option linter.unusedVariables false
set_option linter.unusedSimpArgs false
namespace Go.Proofs.YtmkanofeencgpaaDoor
open Go.RowKit Go.Shelf
set_option maxRecDepth 100000 in
set_option maxHeartbeats 3000000 in
theorem law_rooms (nm : ByteArray) (fa : Option Addr) (fs : List ByteArray) (cf : Nat) (N : Int) (ba : Option Addr) (base : List Int) (cb : Nat) (ta : Option Addr) (ts : List (Int × List Nd)) (ct : Nat) (o : Int) (w : World) (hA : EnA w nm fa fs ba base ta ts) :
    Calls Tryd.prog 4 #[.agg (ev nm fa fs.length cf N ba base.length cb ta ts.length ct), .int .i64 o] w fun e w' => e = .returned (.bool true) ∧ Keep w w' := by
  obtain ⟨w1, hw1, k1, t1, s1⟩ := boxed w (ev nm fa fs.length cf N ba base.length cb ta ts.length ct) 26
  obtain ⟨z0, z1, z2, z3, z4⟩ := cells5 t1
  have htl := hA.er.tl
  have hR1 := Room_all nm fa fs.length cf N ba base cb ta ts ct o w1 (hA.er.keep k1)
  have hR2 := fun wx (q : Keep w1 wx) => rRoom_all nm fa fs.length cf N ba base cb ta ts ct o wx ((hA.er.keep k1).keep q)
  generalize rmZ base o = z at hR1 hR2
  generalize rmN base ts o = r at hR1 hR2
  have hzz : (z != z) = false := by simp
  go_enter Tryd.func4, Tryd.ntmps4
  go_wp2_with (first
    | rw [hw1]
    | (go_at_call 14; refine hR1.mono ?_; rintro e w2 ⟨v2, rfl, N2, hb2, k2⟩
       obtain ⟨y0, y1, y2, y3, y4⟩ := cells5 (k2.at t1))
    | (go_at_call 15; refine (hR2 w2 k2).mono ?_; rintro e w3 ⟨v3, rfl, N3, hb3, k3⟩
       have hSm := same_nv r v2 v3 w3 (N2.keep k3) N3 (by omega))
    | (go_at_call 16; refine hSm.mono ?_; rintro e w4 ⟨rfl, k4⟩))
  have k14 := k2.trans (k3.trans k4)
  clear z0 z1 z2 z3 z4 y0 y1 y2 y3 y4
  go_loopw [9] (fun i wr => ∃ k : Nat, i = .int .i64 (k : Int) ∧ k ≤ ts.length ∧ Keep w1 wr) (fun i wr => ts.length - (intOf i).toNat)
  case atStart => exact ⟨0, rfl, by omega, k14⟩
  case round =>
    obtain ⟨k, rfl, hk, kr⟩ := hrel
    obtain ⟨z0, z1, z2, z3, z4⟩ := cells5 (kr.at t1)
    by_cases hlt : k < ts.length
    · have hltc : (k : Int) < (ts.length : Int) := by omega
      have hl := hA.er.tn k hlt
      obtain ⟨b, p, na, nc, rfl, y0, y1, hrn, hcp⟩ := ((hA.er.rt.keep k1).keep kr) k hlt
      have HK : Hid (k < ts.length) := hlt
      clear hlt hcp
      generalize ts.getD k (0, []) = tk at y0 y1 hrn hl
      obtain ⟨out, L⟩ := tk
      simp only at y0 y1 hrn hl
      have hL1 := fun wx (q : Keep wr wx) => Largest_any out na nc L wx hl (hrn.keep q)
      have hL2 := fun wx (q : Keep wr wx) => rLargest_any out na nc L wx hl (hrn.keep q)
      generalize lg L = g at hL1 hL2
      have hgg : ((g : Int) != (g : Int)) = false := by simp
      go_wp2_with fail
      refine region_keep (Keep.refl wr) (by kernel_rfl) (by kernel_rfl) ?_
      repeat
        with_reducible refine wpQuiet_step ?_
        intro K hK
        go_simp
        first
          | (with_reducible refine hK _ ?_; clear hK K)
          | (apply Exists.intro
             with_reducible refine ⟨fun wx hQ => ?_, hK _ ?_⟩
             · first
                 | with_reducible rfl
                 | with_reducible exact (hL1 wx hQ).mono fun e w'' h => ⟨h.1, hQ.trans h.2.2⟩
                 | with_reducible exact (hL2 wx hQ).mono fun e w'' h => ⟨h.1, hQ.trans h.2.2⟩
                 | (have p0 := hQ.cell z4; have p1 := hQ.cell y0; have p2 := hQ.cell y1; go_simp; with_reducible rfl)
             clear hK K)
      with_reducible refine wpQuiet_nil ?_
      intro w6 k6
      go_simp
      go_wp2_with fail
      go_roundw
      case rel => exact ⟨k + 1, by go_num, by have := HK.out; omega, kr.trans k6⟩
      case measure => have := HK.out; simp [intOf]; omega
    · have hltc : ¬ (k : Int) < (ts.length : Int) := by omega
      have hB := begins_any wr ((hA.tb.keep k1).keep kr)
      clear hlt
      go_wp2_with (first | (go_at_call 19; refine hB.mono ?_; rintro e w7 ⟨rfl, k7⟩))
      go_ret
      exact ⟨rfl, k1.trans (kr.trans k7)⟩
end Go.Proofs.YtmkanofeencgpaaDoor
