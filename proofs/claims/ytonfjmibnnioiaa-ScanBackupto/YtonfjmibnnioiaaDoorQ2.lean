import Derived.Test.YtonfjmibnnioiaaDoorQ1
import Derived.Test.YtonfjmibnnioiaaDoorW3
import Derived.Deep.CutBlock
import Derived.Deep.CutRange
set_option linter.unusedVariables false
set_option linter.unusedSimpArgs false
namespace Go.Proofs.YtonfjmibnnioiaaDoor
open Go.RowKit Go.Shelf
set_option maxRecDepth 100000 in
set_option maxHeartbeats 4000000 in
theorem rQuote_any (l : List UInt8) (w : World) (hs : l.length ≤ 68719476736) : Calls Tryd.prog 23 #[.string ⟨l.toArray⟩] w fun e w' => e = .returned (.string ⟨(qt l).toArray⟩) ∧ Keep w w' := by
  have hsz := sz_mk l
  obtain ⟨w1, hw1, k1, t1, s1⟩ := boxed w #[.int .u8 34] 5
  have hO1 := own_new w w [34] (by decide) (Keep.refl w)
  replace hO1 : OwnB w.heap.size (.slice (some ⟨w.heap.size, 0, none⟩) 1 1) [34] w1 := by rw [← hw1]; exact hO1
  replace hO1 : Hid _ := hO1
  go_enter Tryd.func23, Tryd.ntmps23
  go_wp2_with (rw [hw1])
  go_loopw [3, 4] (fun bv iv wr => ∃ (k : Nat) (A : List UInt8), iv = .int .i64 k ∧ k ≤ l.length ∧ OwnB w.heap.size bv A wr ∧ Keep w wr ∧ Hid (A = qk l k)) (fun _ iv _ => l.length - (intOf iv).toNat)
  case atStart => exact ⟨0, [34], rfl, by omega, hO1.out, k1, rfl⟩
  case round =>
    obtain ⟨k, A, rfl, hk, hB, kw, HA⟩ := hrel
    clear hw1 hO1 k1 t1 s1
    replace hB : Hid _ := hB
    replace kw : Hid _ := kw
    have hAl : A.length ≤ 4 * k + 1 := by rw [HA.out]; exact qk_len l k
    by_cases hlt : k < l.length
    · have hx := run_ix l k hlt
      have hltc : decide ((k : Int) < (l.length : Int)) = true := decide_eq_true (by omega)
      have HN := qk_next l k hlt
      rw [← HA.out] at HN
      have HK : Hid (k < l.length) := hlt
      obtain ⟨c, hc⟩ : ∃ c, l.getD k 0 = c := ⟨_, rfl⟩
      rw [hc] at hx HN
      have hAb : A.length + 8 ≤ 1099511627776 := by omega
      clear hc HA hAl
      unfold qc at HN
      by_cases c1 : c = 34 ∨ c = 92
      · rw [if_pos c1] at HN
        replace HN : Hid (qk l (k + 1) = A ++ [92, c]) := HN
        have e1 : ((c.toNat : Int) == 34) = decide (c = 34) := by rw [← ub_eq c 34]; rfl
        have e2 : ((c.toNat : Int) == 92) = decide (c = 92) := by rw [← ub_eq c 92]; rfl
        have hx2 : Hid ((decide (c = 34) || decide (c = 92)) = true) := by unfold Hid; simp; exact c1
        clear c1
        generalize decide (c = 34) = d1 at *
        generalize decide (c = 92) = d2 at *
        cases d1 <;> cases d2 <;> first
          | (exact absurd hx2.out (by decide))
          | (
             obtain ⟨w6, hw6, k6, t6, s6⟩ := boxed wr (Lib.byteCells [92, c]).toArray 5
             replace hw6 : wr.alloc (Obj.cells #[.int .u8 92, .int .u8 (c.toNat : Nat)] 5) = w6 := hw6
             go_wp2_with (first
               | rw [hw6]
               | (at_builtin; refine wpList_appB w.heap.size _ rfl _ _ rfl A [92, c] _ rfl (OwnB.keep hB.out k6) (Keep.trans kw.out k6).le ⟨wr.heap.size, 0, none⟩ 2 rfl (atB t6) (by simp only [List.length_cons, List.length_nil]; omega) ?_; intro v7 w7 hO7 hg7
                  have kf : Hid (Keep w w7) := own_grownB (Keep.trans kw.out k6) (OwnB.keep hB.out k6) hg7
                  replace hO7 : Hid _ := hO7
                  clear hg7))
             go_roundw
             case rel => exact ⟨k + 1, A ++ [92, c], by go_num, by have := HK.out; omega, hO7.out, kf.out, by unfold Hid; rw [HN.out]⟩
             case measure => have := HK.out; simp [intOf]; omega)
          | (go_wp2_with fail
             done)
      · rw [if_neg c1] at HN
        have e1 := ub_no c 34 34 rfl (fun h => c1 (.inl h))
        have e2 := ub_no c 92 92 rfl (fun h => c1 (.inr h))
        by_cases c2 : c = 10
        · rw [if_pos c2] at HN
          replace HN : Hid (qk l (k + 1) = A ++ [92, 110]) := HN
          have e3 := ub_is c 10 10 rfl c2
          clear c1 c2
          generalize c.toNat = n at *
          obtain ⟨w6, hw6, k6, t6, s6⟩ := boxed wr (Lib.byteCells [92, 110]).toArray 5
          replace hw6 : wr.alloc (Obj.cells #[.int .u8 92, .int .u8 110] 5) = w6 := hw6
          go_wp2_with (first
            | rw [hw6]
            | (at_builtin; refine wpList_appB w.heap.size _ rfl _ _ rfl A [92, 110] _ rfl (OwnB.keep hB.out k6) (Keep.trans kw.out k6).le ⟨wr.heap.size, 0, none⟩ 2 rfl (atB t6) (by simp only [List.length_cons, List.length_nil]; omega) ?_; intro v7 w7 hO7 hg7
               have kf : Hid (Keep w w7) := own_grownB (Keep.trans kw.out k6) (OwnB.keep hB.out k6) hg7
               replace hO7 : Hid _ := hO7
               clear hg7))
          go_roundw
          case rel => exact ⟨k + 1, A ++ [92, 110], by go_num, by have := HK.out; omega, hO7.out, kf.out, by unfold Hid; rw [HN.out]⟩
          case measure => have := HK.out; simp [intOf]; omega
        · rw [if_neg c2] at HN
          have e3 := ub_no c 10 10 rfl c2
          by_cases c3 : c = 9
          · rw [if_pos c3] at HN
            replace HN : Hid (qk l (k + 1) = A ++ [92, 116]) := HN
            have e4 := ub_is c 9 9 rfl c3
            clear c1 c2 c3
            generalize c.toNat = n at *
            obtain ⟨w6, hw6, k6, t6, s6⟩ := boxed wr (Lib.byteCells [92, 116]).toArray 5
            replace hw6 : wr.alloc (Obj.cells #[.int .u8 92, .int .u8 116] 5) = w6 := hw6
            go_wp2_with (first
              | rw [hw6]
              | (at_builtin; refine wpList_appB w.heap.size _ rfl _ _ rfl A [92, 116] _ rfl (OwnB.keep hB.out k6) (Keep.trans kw.out k6).le ⟨wr.heap.size, 0, none⟩ 2 rfl (atB t6) (by simp only [List.length_cons, List.length_nil]; omega) ?_; intro v7 w7 hO7 hg7
                 have kf : Hid (Keep w w7) := own_grownB (Keep.trans kw.out k6) (OwnB.keep hB.out k6) hg7
                 replace hO7 : Hid _ := hO7
                 clear hg7))
            go_roundw
            case rel => exact ⟨k + 1, A ++ [92, 116], by go_num, by have := HK.out; omega, hO7.out, kf.out, by unfold Hid; rw [HN.out]⟩
            case measure => have := HK.out; simp [intOf]; omega
          · rw [if_neg c3] at HN
            have e4 := ub_no c 9 9 rfl c3
            have hq32 : decide ((c.toNat : Int) < 32) = decide (c.toNat < 32) := by rw [decide_eq_decide]; omega
            have hq127 : ((c.toNat : Int) == 127) = decide (c = 127) := by rw [← ub_eq _ 127]; rfl
            by_cases c4 : c.toNat < 32 ∨ c = 127
            · rw [if_pos c4] at HN
              replace HN : Hid (qk l (k + 1) = A ++ [92, 120, hxD (c.toNat / 16), hxD (c.toNat % 16)]) := HN
              have hor : Hid ((decide (c.toNat < 32) || decide (c = 127)) = true) := by unfold Hid; simp; exact c4
              have hcl : Hid (c.toNat < 256) := UInt8.toNat_lt c
              have hlt16 : c.toNat / 16 < 16 := by have := UInt8.toNat_lt c; omega
              have hlt17 : c.toNat % 16 < 16 := by omega
              clear c1 c2 c3 c4
              generalize decide (c.toNat < 32) = b1 at *
              generalize decide (c = 127) = b2 at *
              go_upto_region 13 with fail
              go_cut [43] from 7 to 58 (fun sc wx => sc = .bool true ∧ wx = wr)
              case first =>
                cases b1 <;> cases b2 <;> first
                  | (exact absurd hor.out (by decide))
                  | (go_wp2_with fail
                     go_meet
                     case rel => exact ⟨rfl, rfl⟩)
                  | (go_wp2_with fail
                     done)
              case rest =>
                obtain ⟨rfl, rfl⟩ := hcut
                clear hq32 hq127 hor
                go_upto_region 14 with fail
                obtain ⟨q, hq⟩ : ∃ q, c.toNat / 16 = q := ⟨_, rfl⟩
                obtain ⟨r, hr⟩ : ∃ r, c.toNat % 16 = r := ⟨_, rfl⟩
                have hw1 : IntKind.u8.wrap ((c.toNat : Int) / 16) = (q : Int) := by
                  have := hcl.out
                  simp [IntKind.wrap, IntKind.bits, IntKind.signed]; omega
                have hw2 : ((c.toNat : Int)).tmod 16 = (r : Int) := by
                  rw [Int.tmod_eq_emod_of_nonneg (by omega)]; omega
                rw [hq] at hlt16
                rw [hr] at hlt17
                rw [hq, hr] at HN
                have e16 := hx_at q hlt16 (h' := by show _ < 16; omega)
                have e17 := hx_at r hlt17 (h' := by show _ < 16; omega)
                have hltq : (q : Int) < 16 := by omega
                have hltr : (r : Int) < 16 := by omega
                clear hq hr hcl
                generalize c.toNat = n at *
                have kz : Keep wc (wc.drew.alloc (.cells (Lib.byteCells [92, 120, hxD q, hxD r]).toArray 5)) := (Keep.refl wc).drew.alloc _
                have oz := OwnB.keep hB.out kz
                have tz : (wc.drew.alloc (.cells (Lib.byteCells [92, 120, hxD q, hxD r]).toArray 5)).heap[wc.heap.size]? = some (.cells (Lib.byteCells [92, 120, hxD q, hxD r]).toArray 5 (0, 0)) := heap_alloc_new wc.drew _
                have lz := (Keep.trans kw.out kz).le
                go_region_law (refine step_appB w.heap.size rfl _ _ rfl A [92, 120, hxD q, hxD r] _ oz lz (by simp only [List.length_cons, List.length_nil]; omega) ⟨wc.heap.size, 0, none⟩ 4 4 rfl (atB tz) rfl rfl ?_; intro v7 w7 hO7 hg7)
                all_goals
                  have kf : Hid (Keep w w7) := own_grownB (Keep.trans kw.out kz) oz hg7
                  replace hO7 : Hid _ := hO7
                  clear hg7
                  go_wp2_with fail
                  go_roundw
                  case rel => exact ⟨k + 1, A ++ [92, 120, hxD q, hxD r], by go_num, by have := HK.out; omega, hO7.out, kf.out, by unfold Hid; rw [HN.out]⟩
                  case measure => have := HK.out; simp [intOf]; omega
            · rw [if_neg c4] at HN
              replace HN : Hid (qk l (k + 1) = A ++ [c]) := HN
              rw [decide_eq_false (fun h => c4 (.inl h))] at hq32
              rw [decide_eq_false (fun h => c4 (.inr h))] at hq127
              clear c1 c2 c3 c4
              obtain ⟨w6, hw6, k6, t6, s6⟩ := boxed wr (Lib.byteCells [c]).toArray 5
              replace hw6 : wr.alloc (Obj.cells #[.int .u8 (c.toNat : Nat)] 5) = w6 := hw6
              go_wp2_with (first
                | rw [hw6]
                | (at_builtin; refine wpList_appB w.heap.size _ rfl _ _ rfl A [c] _ rfl (OwnB.keep hB.out k6) (Keep.trans kw.out k6).le ⟨wr.heap.size, 0, none⟩ 1 rfl (atB t6) (by simp only [List.length_cons, List.length_nil]; omega) ?_; intro v7 w7 hO7 hg7
                   have kf : Hid (Keep w w7) := own_grownB (Keep.trans kw.out k6) (OwnB.keep hB.out k6) hg7
                   replace hO7 : Hid _ := hO7
                   clear hg7))
              go_roundw
              case rel => exact ⟨k + 1, A ++ [c], by go_num, by have := HK.out; omega, hO7.out, kf.out, by unfold Hid; rw [HN.out]⟩
              case measure => have := HK.out; simp [intOf]; omega
    · have hltc : ¬ (k : Int) < (l.length : Int) := by omega
      obtain rfl : k = l.length := by omega
      have HQ : Hid (A ++ [34] = qt l) := by unfold Hid; rw [HA.out]; exact qk_all l
      obtain ⟨w6, hw6, k6, t6, s6⟩ := boxed wr (Lib.byteCells [34]).toArray 5
      replace hw6 : wr.alloc (Obj.cells #[.int .u8 34] 5) = w6 := hw6
      clear HA
      go_wp2_with (first
        | rw [hw6]
        | rw [hcv]
        | (at_builtin; refine wpList_appB w.heap.size _ rfl _ _ rfl A [34] _ rfl (OwnB.keep hB.out k6) (Keep.trans kw.out k6).le ⟨wr.heap.size, 0, none⟩ 1 rfl (atB t6) (by simp only [List.length_cons, List.length_nil]; omega) ?_; intro v7 w7 hO7 hg7
           have kf : Hid (Keep w w7) := own_grownB (Keep.trans kw.out k6) (OwnB.keep hB.out k6) hg7
           have hcv := hO7.conv
           replace hO7 : Hid _ := hO7
           clear hg7))
      go_ret
      exact ⟨by rw [← HQ.out]; rfl, kf.out⟩
end Go.Proofs.YtonfjmibnnioiaaDoor
