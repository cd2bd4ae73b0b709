import Derived.Test.YtonfjmibnnioiaaDoorK5
import Derived.Test.YtonfjmibnnioiaaDoorY1
import Derived.Test.YtonfjmibnnioiaaDoorZ1
import Derived.Test.YtonfjmibnnioiaaDoorR0
import Derived.Test.YtonfjmibnnioiaaDoorW3
import Derived.Test.YtonfjmibnnioiaaDoorV4
import Derived.Test.YtonfjmibnnioiaaDoorP2
import Derived.Deep.QuietTactic
import Derived.Deep.CutBlock
import Derived.Deep.CutRange
set_option linter.unusedVariables false
set_option linter.unusedSimpArgs false
namespace Go.Proofs.YtonfjmibnnioiaaDoor
open Go.RowKit Go.Shelf
theorem alike {V W : List Wd} (h : V.map (fun x => (x.1, x.2.1)) = W.map (fun x => (x.1, x.2.1))) (j : Nat) (hj : j < V.length) : (V.getD j w00).1 = (W.getD j w00).1 ∧ (V.getD j w00).2.1 = (W.getD j w00).2.1 := by
  have hl := congrArg List.length h
  rw [List.length_map, List.length_map] at hl
  have h1 := congrArg (fun l => l[j]?) h
  simp only [List.getElem?_map] at h1
  rw [List.getElem?_eq_getElem hj, List.getElem?_eq_getElem (by omega)] at h1
  simp only [Option.map_some, Option.some.injEq, Prod.mk.injEq] at h1
  have hj' : j < W.length := by omega
  simpa [List.getD, hj, hj'] using h1
set_option maxRecDepth 100000 in
set_option maxHeartbeats 4000000 in
theorem law_again (l : List UInt8) (w : World) (hT : Kt w) (hs : l.length ≤ 1048576) : Calls Tryd.prog 8 #[.string ⟨l.toArray⟩] w fun e w' => e = .returned (.bool true) ∧ Keep w w' := by
  have h10 := lives_any w hT
  have h14 := fun wx (k : Keep w wx) => Words_any l wx (hT.keep k) (by omega)
  obtain ⟨R, hR⟩ : ∃ R, ws 0 l [] = R := ⟨_, rfl⟩
  rw [hR] at h14
  have hWl : R.1.length ≤ l.length := by rw [← hR]; exact ws_len l
  obtain ⟨W, z, p⟩ := R
  simp only [] at h14 hWl
  replace hR : Hid _ := hR
  replace hT : Hid _ := hT
  have hsz := sz_mk l
  go_enter Tryd.func8, Tryd.ntmps8
  go_upto_if 28 with (first
    | (go_at_call 10; refine h10.mono ?_; rintro e w1 ⟨rfl, k1⟩)
    | (go_at_call 14; refine (h14 _ k1).mono ?_; rintro e w2 ⟨v2, rfl, o2, k2⟩
       have q2 := Keep.trans k1 k2))
  go_cut [2] from 6 to 400 (fun ok wx => Keep w wx)
  case first =>
    as_aux_lemma =>
      by_cases hz : z = 0
      · subst hz
        obtain ⟨N, hN⟩ : ∃ N, W.length = N := ⟨_, rfl⟩
        have o2' : World.ownsRow w2 w1.heap.size 44 3 v2 W.length (WvL W) := o2
        rw [hN] at o2'
        obtain ⟨a2, n2, rfl, hn2, g2⟩ := own_rdg o2'
        clear o2'
        have hsum := ws_sum l.length 0 l [] W p (Nat.le_refl _) hR.out
        have hWk := ws_words l.length 0 l [] W p (Nat.le_refl _) (fun x hx => by simp at hx) hR.out
        have hTl := wrL_len W
        have hbl := ws_blank l 0 W p hR.out
        have h00 : tsum ([] : List Wd) = 0 := rfl
        rw [h00] at hsum
        simp only [List.length_nil, Nat.zero_add] at hsum
        have hTb : (wrL W).length ≤ 16777216 := by omega
        have hN5 : W.length ≤ 4194304 := by omega
        obtain ⟨V, hV, hVm⟩ := ws_again W 0 [] hWk
        have hpre : Hid (∀ i ≤ W.length, (wrL (W.take i)).length ≤ 16777216) := by
          intro i hi
          have h1 := wrL_len (W.take i)
          have h2 := tsum_take W i
          have h3 : (W.take i).length ≤ W.length := (List.take_sublist i W).length_le
          omega
        replace hWk : Hid _ := hWk
        replace hV : Hid _ := hV
        replace hVm : Hid _ := hVm
        replace g2 : Hid _ := g2
        replace hbl : Hid _ := hbl
        have kw2 : Hid (Keep w w2) := q2
        clear hsum hTl o2
        rw [hN] at hN5
        replace hN : Hid _ := hN
        go_wp2_with fail
        go_loopw [6, 31] (fun tv iv wx => ∃ i : Nat, tv = .string ⟨(wrL (W.take i)).toArray⟩ ∧ iv = .int .i64 i ∧ i ≤ N ∧ Keep w2 wx) (fun _ iv _ => N - (intOf iv).toNat)
        case atStart => exact ⟨0, rfl, rfl, by omega, Keep.refl _⟩
        case round =>
          obtain ⟨i, rfl, rfl, hi, ki⟩ := hrel
          by_cases hil : i < N
          · have hiW : i < W.length := by rw [hN.out]; exact hil
            have hilc : decide ((i : Int) < (N : Int)) = true := decide_eq_true (by omega)
            obtain ⟨x0, x1, x2⟩ := WvL_get W i hiW
            obtain ⟨b, o, rfl, c0⟩ := RdG.keep g2.out ki _ _ x0
            obtain ⟨_, _, q, c1⟩ := RdG.keep g2.out ki _ _ x1
            cases q
            obtain ⟨_, _, q, c2⟩ := RdG.keep g2.out ki _ _ x2
            cases q
            rw [← Nat.add_assoc] at c1 c2
            have hnx := wrL_next W i hiW
            have hle := hpre.out (i + 1) (by omega)
            rw [hnx] at hle
            obtain ⟨A, hA⟩ : ∃ A, wrL (W.take i) = A := ⟨_, rfl⟩
            rw [hA] at hnx hle ⊢
            obtain ⟨⟨y1, y2, y3⟩, hx⟩ : ∃ x, W.getD i w00 = x := ⟨_, rfl⟩
            rw [hx] at c0 c1 c2 hnx hle
            simp only [] at c0 c1 c2 hnx hle
            have hy65 : y2.length ≤ 65536 := by
              have := (hWk.out (W.getD i w00) (by simp [List.getD, hiW])).2
              rw [hx] at this; exact this
            have HK : Hid (i < N) := hil
            replace ki : Hid _ := ki
            replace hnx : Hid _ := hnx
            rw [List.length_append, List.length_cons] at hle
            clear x0 x1 x2 hA hx hiW
            by_cases hy : y1 = 3
            · subst hy
              have h22 := fun wx => Quote_any y2 wx (by omega)
              rw [show wr1 3 y2 = qt y2 from rfl] at hle
              go_wp2_with (go_at_call 22; refine (h22 _).mono ?_; rintro e w3 ⟨rfl, k3⟩)
              all_goals try (exfalso; omega)
              refine ⟨⟨_, _, _, _, _, _, _, _, _, _, _, _, _, _, _, _, _, _, _, _, _, ⟨i + 1, ?r1, by go_num, by have := HK.out; omega, ?r4⟩, rfl⟩, by have := HK.out; simp [intOf]; omega⟩
              case r1 => rw [hnx.out, show wr1 3 y2 = qt y2 from rfl]; exact congrArg Value.string (by rw [show (ByteArray.mk #[32]) = ⟨[32].toArray⟩ from rfl, cat_mk, cat_mk]; simp)
              case r4 => exact Keep.trans (Keep.alloc ki.out _) k3
            · have hyc : ((y1 : Int) == 3) = false := by rw [beq_eq_false_iff_ne]; omega
              rw [show wr1 y1 y2 = y2 by unfold wr1; rw [if_neg hy]] at hle
              go_wp2_with fail
              all_goals try (exfalso; omega)
              go_roundw
              case rel => exact ⟨i + 1, by rw [hnx.out, show wr1 y1 y2 = y2 by unfold wr1; rw [if_neg hy]]; exact congrArg Value.string (by rw [show (ByteArray.mk #[32]) = ⟨[32].toArray⟩ from rfl, cat_mk, cat_mk]; simp), by go_num, by have := HK.out; omega, Keep.alloc ki.out _⟩
              case measure => have := HK.out; simp [intOf]; omega
          · have hilc : ¬ (i : Int) < (N : Int) := by omega
            obtain rfl : i = N := by omega
            rw [List.take_of_length_le (by rw [hN.out]; omega)]
            have hVN : V.length = i := by have := congrArg List.length hVm.out; rw [List.length_map, List.length_map, hN.out] at this; exact this
            have h14b := fun wx (k : Keep w wx) => Words_any (wrL W) wx (Kt.keep hT.out k) (by omega)
            have g14 : ∀ wx, Keep w wx → Calls Tryd.prog 14 #[.string ⟨(wrL W).toArray⟩] wx fun e w' => ∃ a3 n3, e = .returned (.tuple #[.slice a3 i n3, .int .i64 0, .int .i64 0]) ∧ RdG w' a3 (WvL V) ∧ Keep wx w' := by
              intro wx k
              refine (h14b wx k).mono fun e w' ⟨v, he, o, k⟩ => ?_
              rw [hV.out] at he o
              have o' : World.ownsRow w' wx.heap.size 44 3 v V.length (WvL V) := o
              rw [hVN] at o'
              obtain ⟨a5, n5, rfl, _, g⟩ := own_rdg o'
              exact ⟨a5, n5, he, g, k⟩
            have hb0 : ((i : Int) == 0) = bkB l := by
              rw [← hbl.out, hN.out, Bool.eq_iff_iff, beq_iff_eq, decide_eq_true_eq]; omega
            have h26 := fun wx => Blank_any l wx
            have hne : ((i : Int) != (i : Int)) = false := by simp
            generalize bkB l = bb at *
            replace hVN : Hid _ := hVN
            replace ki : Hid (Keep w2 wr) := ki
            clear h14b hbl hpre hV hsz
            cases bb <;> (
              go_wp2_with (first
                | (go_at_call 14; refine (g14 _ (Keep.trans kw2.out ki.out)).mono ?_; rintro e w3 ⟨a3, n3, rfl, g3, k3⟩)
                | (go_at_call 26; refine (h26 _).mono ?_; rintro e w4 ⟨rfl, k4⟩))
              have q4 : Hid (Keep w w4) := Keep.trans (Keep.trans (Keep.trans kw2.out ki.out) k3) k4
              have G2 : Hid (RdG w4 a2 (WvL W)) := RdG.keep g2.out (Keep.trans (Keep.trans ki.out k3) k4)
              have G3 : Hid (RdG w4 a3 (WvL V)) := RdG.keep g3 k4
              clear g3 g2
              go_loopw [75] (fun jv wx => ∃ j : Nat, jv = .int .i64 j ∧ j ≤ i ∧ Keep w4 wx) (fun jv _ => i - (intOf jv).toNat)
              case atStart => exact ⟨0, rfl, by omega, Keep.refl _⟩
              case round =>
                obtain ⟨j, rfl, hj, kj⟩ := hrel
                by_cases hjl : j < i
                · have hjlc : decide ((j : Int) < (i : Int)) = true := decide_eq_true (by omega)
                  obtain ⟨x0, x1, x2⟩ := WvL_get W j (by rw [hN.out]; exact hjl)
                  obtain ⟨y0, y1, y2⟩ := WvL_get V j (by rw [hVN.out]; exact hjl)
                  have hxy := alike hVm.out j (by rw [hVN.out]; exact hjl)
                  obtain ⟨b, o, rfl, c0⟩ := RdG.keep G2.out kj _ _ x0
                  obtain ⟨_, _, q, c1⟩ := RdG.keep G2.out kj _ _ x1
                  cases q
                  obtain ⟨b', o', rfl, d0⟩ := RdG.keep G3.out kj _ _ y0
                  obtain ⟨_, _, q, d1⟩ := RdG.keep G3.out kj _ _ y1
                  cases q
                  rw [← Nat.add_assoc] at c1 d1
                  rw [hxy.1] at d0
                  rw [hxy.2] at d1
                  generalize (W.getD j w00).1 = z1 at *
                  generalize (W.getD j w00).2.1 = z2 at *
                  clear x0 x1 x2 y0 y1 y2 hxy
                  have HJ : Hid (j < i) := hjl
                  replace kj : Hid _ := kj
                  have hz1 : ((z1 : Int) != (z1 : Int)) = false := by simp
                  go_wp2_with fail
                  go_region
                  all_goals
                    go_wp2_with fail
                    go_roundw
                    case rel => exact ⟨j + 1, by go_num, by have := HJ.out; omega, Keep.drew (Hid.out kj)⟩
                    case measure => have := HJ.out; simp [intOf]; omega
                · have hjlc : ¬ (j : Int) < (i : Int) := by omega
                  obtain rfl : j = i := by omega
                  go_wp2_with fail
                  go_meet
                  case rel => exact Keep.trans q4.out kj)
      · have hzc : ((z : Int) == 0) = false := by rw [beq_eq_false_iff_ne]; omega
        go_wp2_with fail
        go_meet
        case rel => exact q2
  case rest =>
    have hcut' : Hid (Keep w _) := hcut
    clear hR h14 h10 o2 hWl
    obtain ⟨L, hL⟩ : ∃ L, rwA 0 0 l = L := ⟨_, rfl⟩
    have h12 := fun wx => Rows_any l wx (by omega)
    rw [hL] at h12
    have hLl : L.length ≤ 1048577 := by have := rwA_len l.length 0 0 l (Nat.le_refl _); rw [hL] at this; omega
    obtain ⟨N, hN⟩ : ∃ N, L.length = N := ⟨_, rfl⟩
    have g12 : ∀ wx, Calls Tryd.prog 12 #[.string ⟨l.toArray⟩] wx fun e w' => ∃ a3 n3, e = .returned (.slice a3 N n3) ∧ RdG w' a3 (RvL L) ∧ Keep wx w' := by
      intro wx
      refine (h12 wx).mono fun e w' ⟨v, he, o, k⟩ => ?_
      have o' : World.ownsRow w' wx.heap.size 46 3 v L.length (RvL L) := o
      rw [hN] at o'
      obtain ⟨a5, n5, rfl, _, g⟩ := own_rdg o'
      exact ⟨a5, n5, he, g, k⟩
    clear h12
    replace hL : Hid _ := hL
    obtain ⟨M, hM⟩ : ∃ M, rwA 0 0 (rwT L) = M := ⟨_, rfl⟩
    obtain ⟨hMl, hF⟩ := rw_facts l L M hL.out hM
    have hTl := rw_sum l.length 0 0 l (Nat.le_refl _)
    rw [hL.out] at hTl
    have hTb : (rwT L).length ≤ 4194304 := by omega
    have h12b := fun wx => Rows_any (rwT L) wx (by omega)
    rw [hM] at h12b
    rw [hN] at hMl
    have g12b : ∀ wx, Calls Tryd.prog 12 #[.string ⟨(rwT L).toArray⟩] wx fun e w' => ∃ a3 n3, e = .returned (.slice a3 N n3) ∧ RdG w' a3 (RvL M) ∧ Keep wx w' := by
      intro wx
      refine (h12b wx).mono fun e w' ⟨v, he, o, k⟩ => ?_
      have o' : World.ownsRow w' wx.heap.size 46 3 v M.length (RvL M) := o
      rw [hMl] at o'
      obtain ⟨a5, n5, rfl, _, g⟩ := own_rdg o'
      exact ⟨a5, n5, he, g, k⟩
    have hTi : Hid (∀ i, (rwT (L.take i)).length ≤ 4194304) := fun i => by have := rwT_le L i; omega
    rw [hN] at hF hLl
    replace hF : Hid _ := hF
    replace hMl : Hid _ := hMl
    replace hN : Hid _ := hN
    clear h12b hTl hM
    go_wp2_with (go_at_call 12; refine (g12 _).mono ?_; rintro e w3 ⟨a3, n3, rfl, g3, k3⟩)
    have q3 : Hid (Keep w w3) := Keep.trans hcut'.out k3
    replace g3 : Hid _ := g3
    clear hcut' k3
    go_loopw [14, 107] (fun tv iv wx => ∃ i : Nat, tv = .string ⟨(rwT (L.take i)).toArray⟩ ∧ iv = .int .i64 i ∧ i ≤ N ∧ Keep w3 wx) (fun _ iv _ => N - (intOf iv).toNat)
    case atStart => exact ⟨0, rfl, rfl, by omega, Keep.refl _⟩
    case round =>
      obtain ⟨i, rfl, rfl, hi, ki⟩ := hrel
      by_cases hil : i < N
      · have hiW : i < L.length := by rw [hN.out]; exact hil
        have hilc : decide ((i : Int) < (N : Int)) = true := decide_eq_true (by omega)
        obtain ⟨x0, x1, x2⟩ := RvL_get L i hiW
        obtain ⟨b, o, rfl, c0⟩ := RdG.keep g3.out ki _ _ x0
        obtain ⟨_, _, q, c1⟩ := RdG.keep g3.out ki _ _ x1
        cases q
        obtain ⟨_, _, q, c2⟩ := RdG.keep g3.out ki _ _ x2
        cases q
        rw [← Nat.add_assoc] at c1 c2
        have hnx := rwT_next L i hiW
        have hle := hTi.out (i + 1)
        rw [hnx] at hle
        obtain ⟨A, hA⟩ : ∃ A, rwT (L.take i) = A := ⟨_, rfl⟩
        rw [hA] at hnx hle ⊢
        generalize (L.getD i r00).1 = y1 at *
        generalize (L.getD i r00).2.1 = y2 at *
        generalize (L.getD i r00).2.2 = y3 at *
        have HK : Hid (i < N) := hil
        replace ki : Hid _ := ki
        replace hnx : Hid _ := hnx
        rw [List.length_append, List.length_append, List.length_singleton] at hle
        clear x0 x1 x2 hA hiW
        go_wp2_with fail
        all_goals try (exfalso; omega)
        go_roundw
        case rel => exact ⟨i + 1, by rw [hnx.out]; exact congrArg Value.string (by rw [show (ByteArray.mk #[10]) = ⟨[10].toArray⟩ from rfl, cat_mk, cat_mk]; simp), by go_num, by have := HK.out; omega, Keep.alloc ki.out _⟩
        case measure => have := HK.out; simp [intOf]; omega
      · have hilc : ¬ (i : Int) < (N : Int) := by omega
        obtain rfl : i = N := by omega
        rw [List.take_of_length_le (by rw [hN.out]; omega)]
        replace ki : Hid (Keep w3 wr) := ki
        have hne : ((i : Int) != (i : Int)) = false := by simp
        go_wp2_with (go_at_call 12; refine (g12b _).mono ?_; rintro e w4 ⟨a4, n4, rfl, g4, k4⟩)
        have q4 : Hid (Keep w w4) := Keep.trans (Keep.trans q3.out ki.out) k4
        have G3 : Hid (RdG w4 a3 (RvL L)) := RdG.keep g3.out (Keep.trans ki.out k4)
        replace g4 : Hid _ := g4
        clear g3 ki k4 q3 hTi g12 g12b
        go_loopw [126] (fun jv wx => ∃ j : Nat, jv = .int .i64 j ∧ j ≤ i ∧ Keep w4 wx) (fun jv _ => i - (intOf jv).toNat)
        case atStart => exact ⟨0, rfl, by omega, Keep.refl _⟩
        case round =>
          obtain ⟨j, rfl, hj, kj⟩ := hrel
          by_cases hjl : j < i
          · have hjlc : decide ((j : Int) < (i : Int)) = true := decide_eq_true (by omega)
            obtain ⟨x0, x1, x2⟩ := RvL_get L j (by rw [hN.out]; exact hjl)
            obtain ⟨y0, y1, y2⟩ := RvL_get M j (by rw [hMl.out]; exact hjl)
            obtain ⟨f1, f2, f3, f4, f5⟩ := hF.out j hjl
            obtain ⟨b, o, rfl, c0⟩ := RdG.keep G3.out kj _ _ x0
            obtain ⟨_, _, q, c1⟩ := RdG.keep G3.out kj _ _ x1
            cases q
            obtain ⟨_, _, q, c2⟩ := RdG.keep G3.out kj _ _ x2
            cases q
            obtain ⟨b', o', rfl, d0⟩ := RdG.keep g4.out kj _ _ y0
            obtain ⟨_, _, q, d2⟩ := RdG.keep g4.out kj _ _ y2
            cases q
            rw [← Nat.add_assoc] at c1 c2 d2
            rw [f2] at d0
            rw [f1] at d2
            rw [f3] at c0
            obtain ⟨V, hV⟩ : ∃ V : Int, V = ((j + 1 : Nat) : Int) := ⟨_, rfl⟩
            rw [← hV] at c0 d0
            have e1 : (V != (j : Int) + 1) = false := by rw [hV]; simp
            clear hV
            have hsl := run_sub l (L.getD j r00).2.1 ((L.getD j r00).2.1 + (L.getD j r00).2.2.length) (by omega) f4
            rw [show (l.drop (L.getD j r00).2.1).take ((L.getD j r00).2.1 + (L.getD j r00).2.2.length - (L.getD j r00).2.1) = (L.getD j r00).2.2 by rw [Nat.add_sub_cancel_left]; exact f5] at hsl
            generalize (L.getD j r00).2.1 = z1 at *
            generalize (L.getD j r00).2.2 = z2 at *
            have hz2 := sz_mk z2
            have e2 : decide ((z1 : Int) < 0) = false := decide_eq_false (by omega)
            have e3 : decide ((z1 : Int) + (z2.length : Int) > (l.length : Int)) = false := decide_eq_false (by omega)
            have hz1b : z1 + z2.length ≤ 1048576 := by omega
            rw [Int.natCast_add] at hsl
            clear x0 x1 x2 y0 y1 y2 f1 f2 f3 f5
            have hwr1 : IntKind.i64.wrap ((j : Int) + 1) = (j : Int) + 1 := by rw [IntWalk.i64_left]; exact IntWalk.wrap64_in _ (by omega)
            have hwr2 : IntKind.i64.wrap ((z1 : Int) + (z2.length : Int)) = (z1 : Int) + (z2.length : Int) := by rw [IntWalk.i64_left]; exact IntWalk.wrap64_in _ (by omega)
            have HJ : Hid (j < i) := hjl
            replace kj : Hid _ := kj
            go_wp2_with fail
            dsimp only [List.append]
            refine wp_region_quiet_lit (by kernel_rfl) (by kernel_rfl) ?_
            iterate 12
              with_reducible refine wpQuiet_step ?_
              intro K hK
              go_simp
              first
                | (with_reducible refine hK _ ?_; clear hK K)
                | (apply Exists.intro
                   refine ⟨fun _ => ?_, hK _ ?_⟩
                   · first
                       | with_reducible rfl
                       | exact hsl
                   clear hK K)
            as_aux_lemma =>
              iterate 12
                with_reducible refine wpQuiet_step ?_
                intro K hK
                go_simp
                first
                  | (with_reducible refine hK _ ?_; clear hK K)
                  | (apply Exists.intro
                     refine ⟨fun _ => ?_, hK _ ?_⟩
                     · first
                         | with_reducible rfl
                         | exact hsl
                     clear hK K)
              as_aux_lemma =>
                iterate 12
                  with_reducible refine wpQuiet_step ?_
                  intro K hK
                  go_simp
                  first
                    | (with_reducible refine hK _ ?_; clear hK K)
                    | (apply Exists.intro
                       refine ⟨fun _ => ?_, hK _ ?_⟩
                       · first
                           | with_reducible rfl
                           | exact hsl
                       clear hK K)
                as_aux_lemma =>
                  iterate 12
                    with_reducible refine wpQuiet_step ?_
                    intro K hK
                    go_simp
                    first
                      | (with_reducible refine hK _ ?_; clear hK K)
                      | (apply Exists.intro
                         refine ⟨fun _ => ?_, hK _ ?_⟩
                         · first
                             | with_reducible rfl
                             | exact hsl
                         clear hK K)
                  as_aux_lemma =>
                    iterate 12
                      with_reducible refine wpQuiet_step ?_
                      intro K hK
                      go_simp
                      first
                        | (with_reducible refine hK _ ?_; clear hK K)
                        | (apply Exists.intro
                           refine ⟨fun _ => ?_, hK _ ?_⟩
                           · first
                               | with_reducible rfl
                               | exact hsl
                           clear hK K)
                    as_aux_lemma =>
                      iterate 12
                        with_reducible refine wpQuiet_step ?_
                        intro K hK
                        go_simp
                        first
                          | (with_reducible refine hK _ ?_; clear hK K)
                          | (apply Exists.intro
                             refine ⟨fun _ => ?_, hK _ ?_⟩
                             · first
                                 | with_reducible rfl
                                 | exact hsl
                             clear hK K)
                      as_aux_lemma =>
                        iterate 11
                          with_reducible refine wpQuiet_step ?_
                          intro K hK
                          go_simp
                          first
                            | (with_reducible refine hK _ ?_; clear hK K)
                            | (apply Exists.intro
                               refine ⟨fun _ => ?_, hK _ ?_⟩
                               · first
                                   | with_reducible rfl
                                   | exact hsl
                               clear hK K)
                        as_aux_lemma =>
                          refine wpQuiet_nil ?_
                          rintro _ ⟨nq, rfl⟩
                          go_wp2_with fail
                          go_roundw
                          case rel => exact ⟨j + 1, by go_num, by have := HJ.out; omega, Keep.drewN (Hid.out kj) _⟩
                          case measure => have := HJ.out; simp [intOf]; omega
          · have hjlc : ¬ (j : Int) < (i : Int) := by omega
            obtain rfl : j = i := by omega
            go_wp2_with fail
            go_ret
            exact ⟨rfl, Keep.trans q4.out kj⟩
end Go.Proofs.YtonfjmibnnioiaaDoor
