import Derived.Test.YtjiflgdbgpegiaaSC7
import Derived.Test.YtjiflgdbgpegiaaSD0
set_option linter.unusedVariables false
set_option linter.unusedSimpArgs false
namespace Go.Proofs.Ytjiflgdbgpegiaa
open Go.RowKit Go.Shelf
theorem Keep.drewN (w : World) (n : Nat) : Keep w (w.drewN n) := by
  obtain ⟨e1, e2, e3, e4⟩ := heap_drewN w n
  exact ⟨e2, e3, e4, by rw [e1]; exact Nat.le_refl _, fun i _ => by rw [e1]⟩
theorem own_rdu {w : World} {B n : Nat} {v : Value} {l : List Nat} (hn : l.length = n) (h : w.ownsRow B 22 1 v n (UU l)) : ∃ p c, v = .slice p n c ∧ RdU w p l := by
  rcases h.2 with ⟨h1, h2⟩ | ⟨g, cap, cur, hv, hg, hh, r1, r2, r3, r4⟩
  · refine ⟨none, 0, by rw [h1, h2], fun i hi => by omega⟩
  · refine ⟨some ⟨g, 0, none⟩, cap, hv, fun i hi => ⟨g, 0, rfl, ?_⟩⟩
    rw [Nat.mul_one] at r4
    have e : cur.toList[i]? = (UU l)[i]? := by rw [← r4, List.getElem?_take, if_pos (by omega)]
    rw [Nat.zero_add, cell_of_row w g i cur 22 (0, 0) hh]
    have : cur[i]? = cur.toList[i]? := by simp
    rw [this, e]
    simp [UU, List.getD, hi]
theorem RdU.keep {w w' : World} {p : Option Addr} {l : List Nat} (h : RdU w p l) (k : Keep w w') : RdU w' p l := fun i hi => by
  obtain ⟨g, o, e, c⟩ := h i hi
  exact ⟨g, o, e, k.cell c⟩
set_option maxRecDepth 100000 in
set_option maxHeartbeats 4000000 in
/-- Each number once, as the reference does it. -/
theorem rDistinct_any (p : Option Addr) (c n : Nat) (l : List Nat) (w : World) (hF : F64 l) (hn : l.length = n) (hl : n ≤ 17592186044414) (hL : RdU w p l) :
    Calls Try.prog 43 #[.slice p n c] w fun e w' => ∃ v D, e = .returned v ∧ Dst l D ∧ w'.ownsRow w.heap.size 22 1 v D.length (UU D) ∧ Keep w w' := by
  have hS := rSorted_any p c n l w hF hn hl hL
  have HN : Hid (l.length = n) := hn
  have HF : Hid (F64 l) := hF
  clear hL hn hF
  go_enter Try.func43, Try.ntmps43
  go_wp2_with (go_at_call 41; refine hS.mono ?_; rintro e w1 ⟨vs, M, rfl, m1, m2, m3, m4, k1⟩; obtain ⟨q, d, rfl, hR⟩ := own_rdu m1 m4)
  have HM : Hid (M.length = n ∧ srt kI M ∧ eqv kI M l) := ⟨m1, m2, m3⟩
  have HR : Hid (∀ i, i < n → ∃ g o, q = some ⟨g, o, none⟩ ∧ w1.cell? ⟨g, o + i, none⟩ = some (.int .u64 ((M.getD i 0 : Nat) : Int))) := fun i hi => hR i (by omega)
  have HK1 : Hid (Keep w w1) := k1
  have H64 : Hid (∀ y ∈ M, y < 18446744073709551616) := fun y hy => HF.out y (m3.mem hy)
  clear m1 m2 m3 m4 k1 hR hS
  go_loopw [4, 5] (fun v iv wr => ∃ (i : Nat) (D : List Nat), iv = .int .i64 (i : Int) ∧ i ≤ n ∧ Hid (Dst (M.take i) D) ∧ wr.ownsRow w1.heap.size 22 1 v D.length (UU D) ∧ Keep w1 wr) (fun _ iv _ => n - (intOf iv).toNat)
  case atStart => exact ⟨0, [], rfl, by omega, Dst.nil, own_nil 22 1 _ _, Keep.refl _⟩
  case round =>
    obtain ⟨i, D, rfl, hi, hD, hown, kw⟩ := hrel
    by_cases hin : i < n
    · have hic : (i : Int) < (n : Int) := by omega
      obtain ⟨g, o, rfl, cx0⟩ := HR.out i hin
      have cx := kw.cell cx0
      obtain ⟨x, hx⟩ : ∃ x, M.getD i 0 = x := ⟨_, rfl⟩
      have hil : i < M.length := by rw [HM.out.1]; exact hin
      have htk : M.take (i + 1) = M.take i ++ [x] := by rw [List.take_add_one, ← hx]; simp [List.getD, hil]
      rw [hx] at cx
      have hxm : x ∈ M := by rw [← hx]; simp [List.getD, hil]
      have hx64 := H64.out x hxm
      have hlen : D.length ≤ n := by have := hD.out.len; rw [List.length_take] at this; omega
      have hKx := fun wx => rKey_any x wx hx64
      have hNx := fun wx => rNaN_any x wx hx64
      have hA0 := fun wx => rAt_any (key x) wx
      obtain ⟨po, co, hve, hO⟩ := own_rdu rfl hown
      subst hve
      by_cases hnx : isNaN x
      · have HD2 : Hid (Dst (M.take (i + 1)) D) := by rw [htk]; exact hD.out.nan hnx
        simp only [decide_eq_true hnx] at hNx
        clear hx htk hxm hA0 hO cx0 hnx
        go_wp2_with fail
        refine wp_region_quiet_lit (by kernel_rfl) (by kernel_rfl) ?_
        iterate 25
          with_reducible refine wpQuiet_step ?_
          intro K hK
          go_simp
          first
            | (with_reducible refine hK _ ?_; clear hK K)
            | (with_reducible refine (if_neg ?_).mpr (hK _ ?_)
               · decide
               clear hK K)
            | (with_reducible refine ⟨.bool true, fun aw => (hNx _).mono ?_, hK _ ?_⟩
               · rintro e w' ⟨rfl, rfl⟩; exact ⟨rfl, _, rfl⟩
               clear hK K)
            | (apply Exists.intro
               refine ⟨fun _ => ?_, hK _ ?_⟩
               · with_reducible rfl
               clear hK K)
        refine wpQuiet_nil ?_
        rintro _ ⟨nq, rfl⟩
        go_wp2_with fail
        refine ⟨⟨i + 1, D, by go_num, by omega, HD2, own_keep hown (Keep.drewN _ _), kw.trans (Keep.drewN _ _)⟩, ?_⟩
        simp [intOf]; omega
      · have hk1 : key x ≠ 18437736874454810625 := fun q => hnx (nan_key.2 q)
        have hAx : ∀ wx, Calls Try.prog 13 #[.int .u64 (key x : Nat)] wx fun e w' => e = .returned (.tuple #[.int .u64 (aK (key x) : Nat), .int .i64 (atE (key x))]) ∧ w' = wx := fun wx => by have := hA0 wx; rw [aK_ref hk1] at this; exact this
        simp only [decide_eq_false hnx] at hNx
        have HNX : Hid (¬ isNaN x) := hnx
        have HLE : Hid (∀ y ∈ M.take i, key y ≤ key x) := by
          intro y hy
          have hs := HM.out.2.1
          rw [← List.take_append_drop (i + 1) M, htk] at hs
          have := (List.pairwise_append.1 (List.pairwise_append.1 hs).1).2.2 y hy x (by simp)
          unfold kI at this
          omega
        have HT : Hid (M.take (i + 1) = M.take i ++ [x]) := htk
        clear hx htk hxm hA0 cx0 hnx hk1
        by_cases hd0 : 0 < D.length
        · obtain ⟨D', z, hDz⟩ : ∃ D' z, D = D' ++ [z] := by
            rcases List.eq_nil_or_concat D with q | ⟨q, z, e⟩
            · rw [q] at hd0; simp at hd0
            · exact ⟨q, z, by rw [e]; simp⟩
          obtain ⟨km, hkm⟩ : ∃ km, D.length = km + 1 := ⟨D.length - 1, by omega⟩
          obtain ⟨g2, o2, rfl, cz⟩ := hO km (by omega)
          have hez : D.getD km 0 = z := by
            have : D'.length = km := by rw [hDz] at hkm; simpa using hkm
            rw [hDz, getD_right 0 D' _ (by omega), this, Nat.sub_self]; rfl
          rw [hez] at cz
          have hzm : z ∈ D := by rw [hDz]; simp
          have hz64 := hD.out.f64 z hzm
          have hKz := fun wx => rKey_any z wx hz64
          have HZ : Hid (z ∈ D ∧ D.getLast? = some z) := ⟨hzm, by rw [hDz]; simp⟩
          have c1 : decide ((D.length : Int) > 0) = true := decide_eq_true (by omega)
          have hsub : (D.length : Int) - 1 = (km : Int) := by omega
          have hjm : IntKind.i64.wrap ((D.length : Int) - 1) = (km : Int) := by rw [IntWalk.i64_left, hsub]; exact IntWalk.wrap64_in _ (by omega)
          have hwk : IntKind.i64.wrap (km : Int) = (km : Int) := by rw [IntWalk.i64_left]; exact IntWalk.wrap64_in _ (by omega)
          have ckm : (km : Int) < (D.length : Int) := by omega
          have ckm2 : km < D.length := by omega
          have HKM : Hid (D.length = km + 1) := hkm
          clear hez hzm hDz hO hkm hz64
          by_cases hkk : key z = key x
          · have HD2 : Hid (Dst (M.take (i + 1)) D) := by rw [HT.out]; exact hD.out.same HZ.out.1 hkk
            have ckk : ((key z : Nat) : Int) = ((key x : Nat) : Int) := by omega
            clear hkk
            go_wp2_with fail
            refine wp_region_quiet_lit (by kernel_rfl) (by kernel_rfl) ?_
            iterate 25
              with_reducible refine wpQuiet_step ?_
              intro K hK
              go_simp
              first
                | (with_reducible refine hK _ ?_; clear hK K)
                | (with_reducible refine (if_neg ?_).mpr (hK _ ?_)
                   · decide
                   clear hK K)
                | (with_reducible refine ⟨.bool false, fun aw => (hNx _).mono ?_, hK _ ?_⟩
                   · rintro e w' ⟨rfl, rfl⟩; exact ⟨rfl, _, rfl⟩
                   clear hK K)
                | (with_reducible refine ⟨.int .u64 ((key x : Nat) : Int), fun aw => (hKx _).mono ?_, hK _ ?_⟩
                   · rintro e w' ⟨rfl, rfl⟩; exact ⟨rfl, _, rfl⟩
                   clear hK K)
                | (with_reducible refine ⟨.int .u64 ((key z : Nat) : Int), fun aw => (hKz _).mono ?_, hK _ ?_⟩
                   · rintro e w' ⟨rfl, rfl⟩; exact ⟨rfl, _, rfl⟩
                   clear hK K)
                | (apply Exists.intro
                   refine ⟨fun _ => ?_, hK _ ?_⟩
                   · with_reducible rfl
                   clear hK K)
            refine wpQuiet_nil ?_
            rintro _ ⟨nq, rfl⟩
            go_wp2_with fail
            refine ⟨⟨i + 1, D, by go_num, by omega, HD2, own_keep hown (Keep.drewN _ _), kw.trans (Keep.drewN _ _)⟩, ?_⟩
            simp [intOf]; omega
          · have HD2 : Hid (Dst (M.take (i + 1)) (D ++ [aK (key x)])) := by
              rw [HT.out]
              refine hD.out.more HNX.out HLE.out fun y hy => ?_
              rw [HZ.out.2] at hy
              have : z = y := by simpa using hy
              rw [← this]; exact hkk
            have ckk : ¬ ((key z : Nat) : Int) = ((key x : Nat) : Int) := by omega
            clear hkk
            go_wp2_with fail
            refine wp_region_quiet_lit (by kernel_rfl) (by kernel_rfl) ?_
            iterate 25
              with_reducible refine wpQuiet_step ?_
              intro K hK
              go_simp
              first
                | (with_reducible refine hK _ ?_; clear hK K)
                | (with_reducible refine (if_neg ?_).mpr (hK _ ?_)
                   · decide
                   clear hK K)
                | (with_reducible refine ⟨.bool false, fun aw => (hNx _).mono ?_, hK _ ?_⟩
                   · rintro e w' ⟨rfl, rfl⟩; exact ⟨rfl, _, rfl⟩
                   clear hK K)
                | (with_reducible refine ⟨.int .u64 ((key x : Nat) : Int), fun aw => (hKx _).mono ?_, hK _ ?_⟩
                   · rintro e w' ⟨rfl, rfl⟩; exact ⟨rfl, _, rfl⟩
                   clear hK K)
                | (with_reducible refine ⟨.int .u64 ((key z : Nat) : Int), fun aw => (hKz _).mono ?_, hK _ ?_⟩
                   · rintro e w' ⟨rfl, rfl⟩; exact ⟨rfl, _, rfl⟩
                   clear hK K)
                | (apply Exists.intro
                   refine ⟨fun _ => ?_, hK _ ?_⟩
                   · with_reducible rfl
                   clear hK K)
            refine wpQuiet_nil ?_
            rintro _ ⟨nq, rfl⟩
            clear cz
            have hown2 := own_keep hown (Keep.drewN wr nq)
            have kw2 := kw.trans (Keep.drewN wr nq)
            have cx2 := (Keep.drewN wr nq).cell cx
            clear cx hown kw
            generalize wr.drewN nq = wv at hown2 kw2 cx2 ⊢
            go_wp2_with (first
              | (go_at_call 16; refine (hKx _).mono ?_; rintro e w5 ⟨rfl, rfl⟩)
              | (go_at_call 13; refine (hAx _).mono ?_; rintro e w6 ⟨rfl, rfl⟩)
              | (at_builtin; refine wpList_appG Try.underlying61 i22 rfl w1.heap.size _ rfl _ _ rfl D.length (UU D) (UU [aK (key x)]) _ rfl (own_keep hown2 ((Keep.refl _).alloc _)) (kw2.alloc (Obj.cells #[.int .u64 (aK (key x) : Nat)] 22)).le ⟨w6.heap.size, 0, none⟩ 1 rfl rfl (newsU w6 (aK (key x))) (UU_one _) (by omega) ?_; intro v7 w7 o7 g7; have k7 := keep_grown (kw2.alloc (Obj.cells #[.int .u64 (aK (key x) : Nat)] 22)) (own_keep hown2 ((Keep.refl w6).alloc _)) g7))
            refine ⟨⟨i + 1, D ++ [aK (key x)], by go_num, by omega, HD2, ?_, k7⟩, ?_⟩
            · rw [List.length_append]; unfold UU at o7 ⊢; rw [← List.map_append] at o7; exact o7
            · simp [intOf]; omega
        · have c1 : decide ((D.length : Int) > 0) = false := decide_eq_false (by omega)
          have c1n : ¬ 0 < D.length := hd0
          have HD2 : Hid (Dst (M.take (i + 1)) (D ++ [aK (key x)])) := by
            rw [HT.out]
            refine hD.out.more HNX.out HLE.out fun y hy => ?_
            have : D = [] := List.eq_nil_of_length_eq_zero (by omega)
            rw [this] at hy; cases hy
          clear hd0 hO
          go_wp2_with fail
          refine wp_region_quiet_lit (by kernel_rfl) (by kernel_rfl) ?_
          iterate 25
            with_reducible refine wpQuiet_step ?_
            intro K hK
            go_simp
            first
              | (with_reducible refine hK _ ?_; clear hK K)
              | (with_reducible refine (if_neg ?_).mpr (hK _ ?_)
                 · decide
                 clear hK K)
              | (with_reducible refine ⟨.bool false, fun aw => (hNx _).mono ?_, hK _ ?_⟩
                 · rintro e w' ⟨rfl, rfl⟩; exact ⟨rfl, _, rfl⟩
                 clear hK K)
              | (apply Exists.intro
                 refine ⟨fun _ => ?_, hK _ ?_⟩
                 · with_reducible rfl
                 clear hK K)
          refine wpQuiet_nil ?_
          rintro _ ⟨nq, rfl⟩
          have hown2 := own_keep hown (Keep.drewN wr nq)
          have kw2 := kw.trans (Keep.drewN wr nq)
          have cx2 := (Keep.drewN wr nq).cell cx
          clear cx hown kw
          generalize wr.drewN nq = wv at hown2 kw2 cx2 ⊢
          go_wp2_with (first
            | (go_at_call 16; refine (hKx _).mono ?_; rintro e w5 ⟨rfl, rfl⟩)
            | (go_at_call 13; refine (hAx _).mono ?_; rintro e w6 ⟨rfl, rfl⟩)
            | (at_builtin; refine wpList_appG Try.underlying61 i22 rfl w1.heap.size _ rfl _ _ rfl D.length (UU D) (UU [aK (key x)]) _ rfl (own_keep hown2 ((Keep.refl _).alloc _)) (kw2.alloc (Obj.cells #[.int .u64 (aK (key x) : Nat)] 22)).le ⟨w6.heap.size, 0, none⟩ 1 rfl rfl (newsU w6 (aK (key x))) (UU_one _) (by omega) ?_; intro v7 w7 o7 g7; have k7 := keep_grown (kw2.alloc (Obj.cells #[.int .u64 (aK (key x) : Nat)] 22)) (own_keep hown2 ((Keep.refl w6).alloc _)) g7))
          refine ⟨⟨i + 1, D ++ [aK (key x)], by go_num, by omega, HD2, ?_, k7⟩, ?_⟩
          · rw [List.length_append]; unfold UU at o7 ⊢; rw [← List.map_append] at o7; exact o7
          · simp [intOf]; omega
    · have hic : ¬ (i : Int) < (n : Int) := by omega
      obtain rfl : i = n := by omega
      go_wp2_with fail
      go_ret
      have h := hD.out
      have h2 := HM.out
      rw [← h2.1, List.take_length] at h
      have hk := HK1.out
      refine ⟨_, rfl, D, ⟨h.rise, fun x => ?_⟩, ⟨hown.1, ?_⟩, hk.trans kw⟩
      · rw [h.mem]
        constructor
        · rintro ⟨y, hy, r⟩; exact ⟨y, h2.2.2.mem hy, r⟩
        · rintro ⟨y, hy, r⟩; exact ⟨y, h2.2.2.symm.mem hy, r⟩
      · rcases hown.2 with q | ⟨g, cap, cur, q1, q2, q3⟩
        · exact .inl q
        · exact .inr ⟨g, cap, cur, q1, Nat.le_trans hk.le q2, q3⟩
end Go.Proofs.Ytjiflgdbgpegiaa
