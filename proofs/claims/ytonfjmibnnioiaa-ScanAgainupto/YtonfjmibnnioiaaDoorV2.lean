import Derived.Test.YtonfjmibnnioiaaDoorV1
set_option linter.unusedVariables false
set_option linter.unusedSimpArgs false
namespace Go.Proofs.YtonfjmibnnioiaaDoor
open Go.RowKit Go.Shelf
theorem tk_run (p : Nat → Bool) (l : List UInt8) : l.take (rnF p l) = l.takeWhile fun x => p (kd x) := by
  unfold rnF
  exact (List.prefix_iff_eq_take.1 (List.takeWhile_prefix _)).symm
theorem rnF_le (p : Nat → Bool) (l : List UInt8) : rnF p l ≤ l.length := (List.takeWhile_sublist _).length_le
theorem kn_is (k d : Nat) (h : k = d) : ((k : Int) == (d : Int)) = true := by rw [h]; simp
theorem kn_no (k d : Nat) (h : k ≠ d) : ((k : Int) == (d : Int)) = false := by rw [beq_eq_false_iff_ne]; omega
set_option maxRecDepth 100000 in
set_option maxHeartbeats 4000000 in
theorem firstWord_any (c : UInt8) (r : List UInt8) (w : World) (hT : Kt w) (hs : r.length ≤ 1099511627770) : Calls Tryd.prog 33 #[.string ⟨(c :: r).toArray⟩] w fun e w' => e = .returned (fwV (fw (c :: r))) ∧ Keep w w' := by
  obtain ⟨l, hl⟩ : ∃ l : List UInt8, l = c :: r := ⟨_, rfl⟩
  have hln : l.length = r.length + 1 := by rw [hl]; rfl
  obtain ⟨R, hR⟩ : ∃ R, fw (c :: r) = R := ⟨_, rfl⟩
  rw [hR]
  unfold fw at hR
  simp only [] at hR
  rw [← hl] at hR ⊢
  have hx0 : ∀ w, (Instr.index 9 (.string ⟨l.toArray⟩) (.int .i64 0)).run Tryd.prog w = .ok (.int .u8 (c.toNat : Nat)) w := fun w => by
    have := run_ix l 0 (by omega) w
    rw [hl] at this ⊢
    exact this
  obtain ⟨w1, hw1, k1, t1, s1⟩ := boxed w #[.int .u8 0, .string ⟨#[]⟩, .int .i64 0] 44
  obtain ⟨q0, q1, q2, g0, g1, g2⟩ := cells3 t1
  have hz : w.heap.size < w1.heap.size := by omega
  have hT1 := hT.keep k1
  have hK := kindOf_any c w1 hT1
  have hM := markLength_any c r w1 hT1 (by omega)
  rw [← hl] at hM
  have hU := unquoted_any c r w1 hs
  rw [← hl] at hU
  have hRN := runName_any l w1 hT1 (by omega)
  have hRM := runNumber_any l w1 hT1 (by omega)
  have hlb : l.length ≤ 1099511627776 := by omega
  replace hl : Hid _ := hl
  clear hT hln hs
  by_cases n2 : kd c = 2
  · rw [if_pos n2] at hR
    have b2 := kn_is _ 2 n2
    have hA := asWritten_any 1 l (rnF inNm l) w1 (rnF_le _ _) hlb
    rw [tk_run] at hA
    have HR : Hid (WR.ok 1 (l.takeWhile fun x => inNm (kd x)) (rnF inNm l) = R) := hR
    unfold fwV at hA
    simp only [] at hA
    generalize (l.takeWhile fun x => inNm (kd x)) = tt at *
    generalize rnF inNm l = m at *
    generalize c.toNat = n at *
    generalize kd c = kc at *
    clear hR hM hU hRM n2
    go_enter Tryd.func33, Tryd.ntmps33
    go_wp2_with (first
      | rw [hw1]
      | (go_at_call 32; refine hK.mono ?_; rintro e w0 ⟨rfl, hw0⟩; rw [hw0]; clear hw0)
      | (go_at_call 47; refine hRN.mono ?_; rintro e w0 ⟨rfl, hw0⟩; rw [hw0]; clear hw0)
      | (go_at_call 54; refine hA.mono ?_; rintro e w2 ⟨rfl, k2⟩
         have t2 := k2.at t1
         obtain ⟨c0, c1, c2, f0, f1, f2⟩ := cells3 t2))
    have h := heap3 w2 w.heap.size (.int .u8 1) (.string ⟨tt.toArray⟩) (.int .i64 0) t2
    have kk := keep3 (k1.trans k2) w.heap.size (Nat.le_refl _) (.int .u8 1) (.string ⟨tt.toArray⟩) (.int .i64 0)
    exact bodyPost_ret (ret_word rfl _ _ w.heap.size _ _ _ rfl h) rfl ⟨by rw [← HR.out]; rfl, kk⟩
  · rw [if_neg n2] at hR
    have b2 := kn_no _ 2 n2
    by_cases n3 : kd c = 3 ∨ kd c = 4 ∨ kd c = 5
    · rw [if_pos n3] at hR
      have hA := asWritten_any 2 l (rnF inNu l) w1 (rnF_le _ _) hlb
      rw [tk_run] at hA
      have HR : Hid (WR.ok 2 (l.takeWhile fun x => inNu (kd x)) (rnF inNu l) = R) := hR
      unfold fwV at hA
      simp only [] at hA
      generalize (l.takeWhile fun x => inNu (kd x)) = tt at *
      generalize rnF inNu l = m at *
      generalize c.toNat = n at *
      have b3 : ((kd c : Int) == 3) = decide (kd c = 3) := by rw [Bool.eq_iff_iff]; simp only [beq_iff_eq, decide_eq_true_eq]; omega
      have b4 : ((kd c : Int) == 4) = decide (kd c = 4) := by rw [Bool.eq_iff_iff]; simp only [beq_iff_eq, decide_eq_true_eq]; omega
      have b5 : ((kd c : Int) == 5) = decide (kd c = 5) := by rw [Bool.eq_iff_iff]; simp only [beq_iff_eq, decide_eq_true_eq]; omega
      have hx : Hid ((decide (kd c = 3) || decide (kd c = 4) || decide (kd c = 5)) = true) := by unfold Hid; simp; rcases n3 with h | h | h <;> simp [h]
      generalize decide (kd c = 3) = d3 at *
      generalize decide (kd c = 4) = d4 at *
      generalize decide (kd c = 5) = d5 at *
      generalize kd c = kc at *
      clear hR hM hU hRN n2 n3
      cases d3 <;> cases d4 <;> cases d5 <;> first
        | (exact absurd hx.out (by decide))
        | (
           go_enter Tryd.func33, Tryd.ntmps33
           go_wp2_with (first
             | rw [hw1]
             | (go_at_call 32; refine hK.mono ?_; rintro e w0 ⟨rfl, hw0⟩; rw [hw0]; clear hw0)
             | (go_at_call 47; refine hRM.mono ?_; rintro e w0 ⟨rfl, hw0⟩; rw [hw0]; clear hw0)
             | (go_at_call 54; refine hA.mono ?_; rintro e w2 ⟨rfl, k2⟩
                have t2 := k2.at t1
                obtain ⟨c0, c1, c2, f0, f1, f2⟩ := cells3 t2))
           have h := heap3 w2 w.heap.size (.int .u8 2) (.string ⟨tt.toArray⟩) (.int .i64 0) t2
           have kk := keep3 (k1.trans k2) w.heap.size (Nat.le_refl _) (.int .u8 2) (.string ⟨tt.toArray⟩) (.int .i64 0)
           exact bodyPost_ret (ret_word rfl _ _ w.heap.size _ _ _ rfl h) rfl ⟨by rw [← HR.out]; rfl, kk⟩)
        | (
           go_enter Tryd.func33, Tryd.ntmps33
           go_wp2_with (first
             | rw [hw1]
             | (go_at_call 32; refine hK.mono ?_; rintro e w0 ⟨rfl, hw0⟩; rw [hw0]; clear hw0)
             | (go_at_call 47; refine hRM.mono ?_; rintro e w0 ⟨rfl, hw0⟩; rw [hw0]; clear hw0)
             | (go_at_call 54; refine hA.mono ?_; rintro e w2 ⟨rfl, k2⟩
                have t2 := k2.at t1
                obtain ⟨c0, c1, c2, f0, f1, f2⟩ := cells3 t2)))
    · rw [if_neg n3] at hR
      have b3 := kn_no (kd c) 3 (fun h => n3 (.inl h))
      have b4 := kn_no (kd c) 4 (fun h => n3 (.inr (.inl h)))
      have b5 := kn_no (kd c) 5 (fun h => n3 (.inr (.inr h)))
      by_cases n6 : kd c = 6 ∨ kd c = 7
      · rw [if_pos n6] at hR
        have b6 : ((kd c : Int) == 6) = decide (kd c = 6) := by rw [Bool.eq_iff_iff]; simp only [beq_iff_eq, decide_eq_true_eq]; omega
        have b7 : ((kd c : Int) == 7) = decide (kd c = 7) := by rw [Bool.eq_iff_iff]; simp only [beq_iff_eq, decide_eq_true_eq]; omega
        have hx : Hid ((decide (kd c = 6) || decide (kd c = 7)) = true) := by unfold Hid; simp; exact n6
        by_cases m0 : mkN c r = 0
        · have HR : Hid (WR.bad 30 0 = R) := by
            unfold Hid; rw [← hR]
            unfold mkN at m0
            split at m0
            · cases m0
            · rename_i hh
              rw [if_neg hh]
              split at m0
              · rename_i h7; rw [if_pos h7]
              · cases m0
          rw [m0] at hM
          generalize c.toNat = n at *
          generalize decide (kd c = 6) = d6 at *
          generalize decide (kd c = 7) = d7 at *
          have e8 : ((kd c : Int) == 8) = false := kn_no (kd c) 8 (by omega)
          generalize kd c = kc at *
          clear hR hU hRN hRM n2 n3 n6 m0
          cases d6 <;> cases d7 <;> first
            | (exact absurd hx.out (by decide))
            | (
               go_enter Tryd.func33, Tryd.ntmps33
               go_wp2_with (first
                 | rw [hw1]
                 | (go_at_call 32; refine hK.mono ?_; rintro e w0 ⟨rfl, hw0⟩; rw [hw0]; clear hw0)
                 | (go_at_call 56; refine hM.mono ?_; rintro e w0 ⟨rfl, hw0⟩; rw [hw0]; clear hw0))
               have h := heap3 w1 w.heap.size (.int .u8 0) (.string ⟨#[]⟩) (.int .i64 0) t1
               have kk := keep3 k1 w.heap.size (Nat.le_refl _) (.int .u8 0) (.string ⟨#[]⟩) (.int .i64 0)
               exact bodyPost_ret (ret_word rfl _ _ w.heap.size _ _ _ rfl h) rfl ⟨by rw [← HR.out]; rfl, kk⟩)
            | (
               go_enter Tryd.func33, Tryd.ntmps33
               go_wp2_with (first
                 | rw [hw1]
                 | (go_at_call 32; refine hK.mono ?_; rintro e w0 ⟨rfl, hw0⟩; rw [hw0]; clear hw0)
                 | (go_at_call 56; refine hM.mono ?_; rintro e w0 ⟨rfl, hw0⟩; rw [hw0]; clear hw0)))
        · have hle : mkN c r ≤ l.length := by
            rw [hl.out]
            unfold mkN
            split
            · rename_i hh
              cases r with
              | nil => simp at hh
              | cons x y => simp
            · split <;> simp
          have HR : Hid (WR.ok 4 (l.take (mkN c r)) (mkN c r) = R) := by
            unfold Hid; rw [← hR]
            unfold mkN at m0 ⊢
            split
            · rfl
            · rename_i hh
              rw [if_neg hh] at m0
              split
              · rename_i h7; rw [if_pos h7] at m0; exact absurd rfl m0
              · rw [hl.out]; rfl
          have hA := asWritten_any 4 l (mkN c r) w1 hle hlb
          unfold fwV at hA
          simp only [] at hA
          have hpos : 0 < mkN c r := by omega
          generalize l.take (mkN c r) = tt at *
          generalize mkN c r = m at *
          generalize c.toNat = n at *
          generalize decide (kd c = 6) = d6 at *
          generalize decide (kd c = 7) = d7 at *
          generalize kd c = kc at *
          clear hR hU hRN hRM n2 n3 n6 m0 hle
          cases d6 <;> cases d7 <;> first
            | (exact absurd hx.out (by decide))
            | (
               go_enter Tryd.func33, Tryd.ntmps33
               go_wp2_with (first
                 | rw [hw1]
                 | (go_at_call 32; refine hK.mono ?_; rintro e w0 ⟨rfl, hw0⟩; rw [hw0]; clear hw0)
                 | (go_at_call 56; refine hM.mono ?_; rintro e w0 ⟨rfl, hw0⟩; rw [hw0]; clear hw0)
                 | (go_at_call 54; refine hA.mono ?_; rintro e w2 ⟨rfl, k2⟩
                    have t2 := k2.at t1
                    obtain ⟨c0, c1, c2, f0, f1, f2⟩ := cells3 t2))
               have h := heap3 w2 w.heap.size (.int .u8 4) (.string ⟨tt.toArray⟩) (.int .i64 0) t2
               have kk := keep3 (k1.trans k2) w.heap.size (Nat.le_refl _) (.int .u8 4) (.string ⟨tt.toArray⟩) (.int .i64 0)
               exact bodyPost_ret (ret_word rfl _ _ w.heap.size _ _ _ rfl h) rfl ⟨by rw [← HR.out]; rfl, kk⟩)
            | (
               go_enter Tryd.func33, Tryd.ntmps33
               go_wp2_with (first
                 | rw [hw1]
                 | (go_at_call 32; refine hK.mono ?_; rintro e w0 ⟨rfl, hw0⟩; rw [hw0]; clear hw0)
                 | (go_at_call 56; refine hM.mono ?_; rintro e w0 ⟨rfl, hw0⟩; rw [hw0]; clear hw0)
                 | (go_at_call 54; refine hA.mono ?_; rintro e w2 ⟨rfl, k2⟩
                    have t2 := k2.at t1
                    obtain ⟨c0, c1, c2, f0, f1, f2⟩ := cells3 t2)))
      · rw [if_neg n6] at hR
        have b6 := kn_no (kd c) 6 (fun h => n6 (.inl h))
        have b7 := kn_no (kd c) 7 (fun h => n6 (.inr h))
        by_cases n8 : kd c = 8
        · rw [if_pos n8] at hR
          have b8 := kn_is _ 8 n8
          obtain ⟨tt, m, ok, hq⟩ : ∃ tt m ok, uq r [] 1 = (tt, m, ok) := ⟨_, _, _, rfl⟩
          rw [hq] at hR hU
          unfold uqV at hU
          simp only [] at hU
          generalize c.toNat = n at *
          generalize kd c = kc at *
          clear hM hRN hRM n2 n3 n6 n8 hq
          cases ok with
          | true =>
            have HR : Hid (WR.ok 3 tt m = R) := hR
            clear hR
            go_enter Tryd.func33, Tryd.ntmps33
            go_wp2_with (first
              | rw [hw1]
              | (go_at_call 32; refine hK.mono ?_; rintro e w0 ⟨rfl, hw0⟩; rw [hw0]; clear hw0)
              | (go_at_call 57; refine hU.mono ?_; rintro e w2 ⟨rfl, k2⟩
                 have t2 := k2.at t1
                 obtain ⟨c0, c1, c2, f0, f1, f2⟩ := cells3 t2))
            have h := heap3 w2 w.heap.size (.int .u8 3) (.string ⟨tt.toArray⟩) (.int .i64 0) t2
            have kk := keep3 (k1.trans k2) w.heap.size (Nat.le_refl _) (.int .u8 3) (.string ⟨tt.toArray⟩) (.int .i64 0)
            exact bodyPost_ret (ret_word rfl _ _ w.heap.size _ _ _ rfl h) rfl ⟨by rw [← HR.out]; rfl, kk⟩
          | false =>
            have HR : Hid (WR.bad 31 m = R) := hR
            clear hR
            go_enter Tryd.func33, Tryd.ntmps33
            go_wp2_with (first
              | rw [hw1]
              | (go_at_call 32; refine hK.mono ?_; rintro e w0 ⟨rfl, hw0⟩; rw [hw0]; clear hw0)
              | (go_at_call 57; refine hU.mono ?_; rintro e w2 ⟨rfl, k2⟩
                 have t2 := k2.at t1
                 obtain ⟨c0, c1, c2, f0, f1, f2⟩ := cells3 t2))
            have h := heap3 w2 w.heap.size (.int .u8 0) (.string ⟨#[]⟩) (.int .i64 0) t2
            have kk := keep3 (k1.trans k2) w.heap.size (Nat.le_refl _) (.int .u8 0) (.string ⟨#[]⟩) (.int .i64 0)
            exact bodyPost_ret (ret_word rfl _ _ w.heap.size _ _ _ rfl h) rfl ⟨by rw [← HR.out]; rfl, kk⟩
        · rw [if_neg n8] at hR
          have b8 := kn_no (kd c) 8 n8
          have HR : Hid (WR.bad 30 0 = R) := hR
          generalize c.toNat = n at *
          generalize kd c = kc at *
          clear hR hM hU hRN hRM n2 n3 n6 n8
          go_enter Tryd.func33, Tryd.ntmps33
          go_wp2_with (first
            | rw [hw1]
            | (go_at_call 32; refine hK.mono ?_; rintro e w0 ⟨rfl, hw0⟩; rw [hw0]; clear hw0))
          have h := heap3 w1 w.heap.size (.int .u8 0) (.string ⟨#[]⟩) (.int .i64 0) t1
          have kk := keep3 k1 w.heap.size (Nat.le_refl _) (.int .u8 0) (.string ⟨#[]⟩) (.int .i64 0)
          exact bodyPost_ret (ret_word rfl _ _ w.heap.size _ _ _ rfl h) rfl ⟨by rw [← HR.out]; rfl, kk⟩
end Go.Proofs.YtonfjmibnnioiaaDoor
