import Derived.Test.YtjiflgdbgpegiaaSC6
set_option linter.unusedVariables false
set_option linter.unusedSimpArgs false
namespace Go.Proofs.Ytjiflgdbgpegiaa
open Go.RowKit Go.Shelf
/-- Bits as they lie in a row of one's own. -/
def ArC (w : World) (g cap : Nat) (l : List Nat) : Prop := ∃ cur : Array Value, w.heap[g]? = some (.cells cur 22 (0, 0)) ∧ cur.size = cap ∧ cur.toList.take l.length = UU l
theorem ArC.cell {w : World} {g cap : Nat} {l : List Nat} (h : ArC w g cap l) {j : Nat} (hj : j < l.length) : w.cell? ⟨g, j, none⟩ = some (.int .u64 ((l.getD j 0 : Nat) : Int)) := by
  obtain ⟨cur, h1, -, h2⟩ := h
  have e : cur.toList[j]? = (UU l)[j]? := by rw [← h2, List.getElem?_take, if_pos hj]
  rw [cell_of_row w g j cur 22 (0, 0) h1]
  have : cur[j]? = cur.toList[j]? := by simp
  rw [this, e]
  simp [UU, List.getD, hj]
theorem ArC.frozen {w : World} {g cap : Nat} {l : List Nat} (h : ArC w g cap l) (j : Nat) : w.frozen? ⟨g, j, none⟩ = false := by
  obtain ⟨cur, h1, -⟩ := h
  exact frozen_of_row w g j cur 22 h1
theorem ArC.set {w : World} {g cap : Nat} {l : List Nat} (h : ArC w g cap l) (j x : Nat) : ArC (w.setCell ⟨g, j, none⟩ (.int .u64 ((x : Nat) : Int))) g cap (l.set j x) := by
  obtain ⟨cur, h1, h3, h2⟩ := h
  refine ⟨_, heap_setCell_same w g j cur 22 _ h1, by simp [h3], ?_⟩
  rw [List.length_set, Array.toList_setIfInBounds, List.take_set, h2, UU, UU, List.map_set]
theorem ArC.drewN {w : World} {g cap : Nat} {l : List Nat} (h : ArC w g cap l) (n : Nat) : ArC (w.drewN n) g cap l := by
  obtain ⟨cur, h1, h2⟩ := h
  exact ⟨cur, by rw [(heap_drewN w n).1]; exact h1, h2⟩
theorem ArC.own {w : World} {B g cap n : Nat} {l : List Nat} (h : ArC w g cap l) (hn : l.length = n) (hB : B ≤ g) (h1 : n ≤ cap) (h2 : cap ≤ maxLen) : w.ownsRow B 22 1 (.slice (some ⟨g, 0, none⟩) n cap) n (UU l) := by
  obtain ⟨cur, a1, a2, a3⟩ := h
  refine ⟨by simp [UU, hn], .inr ⟨g, cap, cur, rfl, hB, a1, h1, h2, by omega, ?_⟩⟩
  rw [Nat.mul_one, ← hn]
  exact a3
set_option maxRecDepth 100000 in
set_option maxHeartbeats 4000000 in
/-- The list sorted, as the reference does it. -/
theorem rSorted_any (p : Option Addr) (c n : Nat) (l : List Nat) (w : World) (hF : F64 l) (hn : l.length = n) (hl : n ≤ 17592186044414) (hL : RdU w p l) :
    Calls Try.prog 41 #[.slice p n c] w fun e w' => ∃ v M, e = .returned v ∧ M.length = n ∧ srt kI M ∧ eqv kI M l ∧ w'.ownsRow w.heap.size 22 1 v n (UU M) ∧ Keep w w' := by
  have HL : Hid (∀ i, i < n → ∃ g o, p = some ⟨g, o, none⟩ ∧ w.cell? ⟨g, o + i, none⟩ = some (.int .u64 ((l.getD i 0 : Nat) : Int))) := fun i hi => hL i (by omega)
  have HN : Hid (l.length = n) := hn
  have HF : Hid (F64 l) := hF
  clear hL hn hF
  go_enter Try.func41, Try.ntmps41
  go_wp2_with fail
  go_loopw [3, 4] (fun v iv wr => ∃ (i : Nat) (M : List Nat), iv = .int .i64 (i : Int) ∧ i ≤ n ∧ Hid (M.length = i ∧ srt kI M ∧ eqv kI M (l.take i)) ∧ wr.ownsRow w.heap.size 22 1 v i (UU M) ∧ Keep w wr) (fun _ iv _ => n - (intOf iv).toNat)
  case atStart => exact ⟨0, [], rfl, by omega, ⟨rfl, List.Pairwise.nil, eqv.refl _⟩, own_nil 22 1 _ _, Keep.refl _⟩
  case round =>
    obtain ⟨i, M, rfl, hi, hM, hown, kw⟩ := hrel
    by_cases hin : i < n
    · have hic : (i : Int) < (n : Int) := by omega
      obtain ⟨g, o, rfl, cx0⟩ := HL.out i hin
      have cx := kw.cell cx0
      obtain ⟨x, hx⟩ : ∃ x, l.getD i 0 = x := ⟨_, rfl⟩
      have HX : Hid (l.getD i 0 = x) := hx
      rw [hx] at cx
      clear cx0 hx
      go_wp2_with (at_builtin; refine wpList_appG Try.underlying61 i22 rfl w.heap.size _ rfl _ _ rfl i (UU M) (UU [x]) _ rfl (own_keep hown ((Keep.refl _).alloc _)) (kw.alloc (Obj.cells #[.int .u64 (x : Nat)] 22)).le ⟨wr.heap.size, 0, none⟩ 1 rfl rfl (newsU wr x) (UU_one _) (by omega) ?_; intro v7 w7 o7 g7; have k7 := keep_grown (kw.alloc (Obj.cells #[.int .u64 (x : Nat)] 22)) (own_keep hown ((Keep.refl wr).alloc _)) g7; clear g7; obtain ⟨g2, cap, cur, rfl, hg2, hh, r1, r2, r3, r4⟩ := Or.resolve_left o7.2 (by rintro ⟨-, q⟩; omega))
      have hA0 : Hid (ArC w7 g2 cap (M ++ (x :: []))) := by
        have h := hM.out
        refine ⟨cur, hh, by omega, ?_⟩
        rw [List.length_append, h.1]
        rw [Nat.mul_one] at r4
        rw [show i + [x].length = i + 1 from rfl, r4]
        simp [UU]
      have HG : Hid (w.heap.size ≤ g2 ∧ i + 1 ≤ cap ∧ cap ≤ maxLen) := ⟨hg2, r1, r2⟩
      have hx64 : x < 18446744073709551616 := by have := HX.out; rw [← this]; exact HF.out.at i (by rw [HN.out]; exact hin)
      have H64 : Hid (∀ y ∈ M, y < 18446744073709551616) := by
        intro y hy
        exact HF.out y (List.mem_of_mem_take (hM.out.2.2.mem hy))
      have HK7 : Hid (Keep w w7) := k7
      have hi1 : i + 1 ≤ n := hin
      clear hown kw cx o7 hh r1 r2 r3 r4 hg2 hin k7
      go_loopw [5] (fun kv wr => ∃ (k : Nat) (M1 M2 : List Nat), kv = .int .i64 (k : Int) ∧ k ≤ i ∧ Hid (M1.length = k ∧ M = M1 ++ M2 ∧ ∀ y ∈ M2, kI x < kI y) ∧ Hid (ArC wr g2 cap (M1 ++ (x :: M2))) ∧ Oth g2 w7 wr) (fun kv _ => (intOf kv).toNat)
      case atStart => exact ⟨i, M, [], by go_num, by omega, ⟨hM.out.1, by simp, by simp⟩, hA0, Oth.refl _ _⟩
      case round =>
        obtain ⟨k, M1, M2, rfl, hki, hJ, hW, kj⟩ := hrel
        have HLN : Hid ((M1 ++ (x :: M2)).length = i + 1) := by
          have h1 := hM.out.1
          have h2 := congrArg List.length hJ.out.2.1
          simp at h2
          show _ = _
          simp
          omega
        have HEND : Hid ((∀ y ∈ M1, kI y ≤ kI x) → (M1 ++ x :: M2).length = i + 1 ∧ srt kI (M1 ++ x :: M2) ∧ eqv kI (M1 ++ x :: M2) (l.take (i + 1))) := by
          intro hle
          have h1 := hM.out
          have h2 := hJ.out
          have hs := h1.2.1
          rw [h2.2.1] at hs
          obtain ⟨p1, p2⟩ := put_right hs hle h2.2.2
          refine ⟨HLN.out, p1, p2.trans ?_⟩
          rw [← h2.2.1]
          have hil : i < l.length := by rw [HN.out]; omega
          have e : l.take (i + 1) = l.take i ++ [x] := by
            rw [List.take_add_one, ← HX.out]; simp [List.getD, hil]
          rw [e]
          exact h1.2.2.app (eqv.refl _)
        by_cases hk0 : 0 < k
        · obtain ⟨M1', y, hM1⟩ : ∃ M1' y, M1 = M1' ++ [y] := by
            rcases List.eq_nil_or_concat M1 with q | ⟨q, z, e⟩
            · have := hJ.out.1; rw [q] at this; simp at this; omega
            · exact ⟨q, z, by rw [e]; simp⟩
          obtain ⟨km, hkm⟩ : ∃ km, k = km + 1 := ⟨k - 1, by omega⟩
          have hl1 : M1'.length = km := by have h1 := hJ.out.1; rw [hM1] at h1; simp at h1; omega
          have ex : (M1 ++ (x :: M2)).getD k 0 = x := by
            rw [getD_right 0 M1 _ (by rw [hJ.out.1]; omega), hJ.out.1, Nat.sub_self]; rfl
          have ey : (M1 ++ (x :: M2)).getD km 0 = y := by
            rw [hM1, List.append_assoc, getD_right 0 M1' _ (by omega), hl1, Nat.sub_self]; rfl
          have hy64 : y < 18446744073709551616 := H64.out y (by rw [hJ.out.2.1, hM1]; simp)
          have hW2 := hW.out
          have cx := ArC.cell hW2 (j := k) (by rw [HLN.out]; omega)
          have cy := ArC.cell hW2 (j := km) (by rw [HLN.out]; omega)
          have fx := ArC.frozen hW2 k
          have fy := ArC.frozen hW2 km
          rw [ex] at cx
          rw [ey] at cy
          have EX : Hid ((M1 ++ (x :: M2)).getD k 0 = x) := ex
          have EY : Hid ((M1 ++ (x :: M2)).getD km 0 = y) := ey
          have hKx := fun wx => rKey_any x wx hx64
          have hKy := fun wx => rKey_any y wx hy64
          have c1 : decide ((k : Int) > 0) = true := decide_eq_true (by omega)
          have hsub : (k : Int) - 1 = (km : Int) := by omega
          have hjm : IntKind.i64.wrap ((k : Int) - 1) = (km : Int) := by rw [IntWalk.i64_left, hsub]; exact IntWalk.wrap64_in _ (by omega)
          have hwk : IntKind.i64.wrap (km : Int) = (km : Int) := by rw [IntWalk.i64_left]; exact IntWalk.wrap64_in _ (by omega)
          have ck : (k : Int) < (i : Int) + 1 := by omega
          have ckm : (km : Int) < (i : Int) + 1 := by omega
          have ck2 : k < i + 1 := by omega
          have ckm2 : km < i + 1 := by omega
          have hsw : ((M1 ++ (x :: M2)).set k y).set km x = M1' ++ (x :: (y :: M2)) := by
            have h1 := set_two M1' y x M2
            rw [hl1, ← hkm] at h1
            rw [List.set_comm _ _ (by omega), hM1]
            simpa [List.append_assoc] using h1
          have HKM : Hid (k = km + 1) := hkm
          by_cases hlt : key x < key y
          · have hltc : (key x : Int) < (key y : Int) := by omega
            have HJ2 : Hid (M1'.length = km ∧ M = M1' ++ (y :: M2) ∧ ∀ z ∈ (y :: M2), kI x < kI z) := by
              have h5 := hJ.out
              refine ⟨hl1, by rw [h5.2.1, hM1]; simp, ?_⟩
              intro z hz
              rcases List.mem_cons.1 hz with rfl | hz
              · unfold kI; omega
              · exact h5.2.2 z hz
            have HSW : Hid (((M1 ++ (x :: M2)).set k y).set km x = M1' ++ (x :: (y :: M2))) := hsw
            clear hW2 ex ey hsw hM1 hJ HEND hl1 hkm
            go_wp2_with fail
            refine wp_region_quiet_lit (by kernel_rfl) (by kernel_rfl) ?_
            iterate 16
              with_reducible refine wpQuiet_step ?_
              intro K hK
              go_simp
              first
                | (with_reducible refine hK _ ?_; clear hK K)
                | (with_reducible refine (if_neg ?_).mpr (hK _ ?_)
                   · decide
                   clear hK K)
                | (with_reducible refine ⟨.int .u64 ((key x : Nat) : Int), fun aw => (hKx _).mono ?_, hK _ ?_⟩
                   · rintro e w' ⟨rfl, rfl⟩; exact ⟨rfl, _, rfl⟩
                   clear hK K)
                | (with_reducible refine ⟨.int .u64 ((key y : Nat) : Int), fun aw => (hKy _).mono ?_, hK _ ?_⟩
                   · rintro e w' ⟨rfl, rfl⟩; exact ⟨rfl, _, rfl⟩
                   clear hK K)
                | (apply Exists.intro
                   refine ⟨fun _ => ?_, hK _ ?_⟩
                   · with_reducible rfl
                   clear hK K)
            refine wpQuiet_nil ?_
            rintro _ ⟨nq, rfl⟩
            have hWv := ArC.drewN hW.out nq
            have kv := kj.drewN nq
            generalize wr.drewN nq = wv at hWv kv ⊢
            clear cx cy fx fy
            have cx := ArC.cell hWv (j := k) (by rw [HLN.out]; omega)
            have cy := ArC.cell hWv (j := km) (by rw [HLN.out]; omega)
            have fx := ArC.frozen hWv k
            have fy := ArC.frozen hWv km
            rw [EX.out] at cx
            rw [EY.out] at cy
            have q1 := ArC.set (ArC.set hWv k y) km x
            rw [HSW.out] at q1
            have q2 := (kv.set k (.int .u64 ((y : Nat) : Int))).set km (.int .u64 ((x : Nat) : Int))
            have Q1 : Hid (ArC ((wv.setCell ⟨g2, k, none⟩ (.int .u64 ((y : Nat) : Int))).setCell ⟨g2, km, none⟩ (.int .u64 ((x : Nat) : Int))) g2 cap (M1' ++ (x :: (y :: M2)))) := q1
            clear hWv kv hW q1
            have hne : k ≠ km := by have := HKM.out; omega
            have hne2 : km ≠ k := by have := HKM.out; omega
            go_wp2_with fail
            refine ⟨⟨km, M1', y :: M2, by go_num, by omega, HJ2, Q1, q2⟩, ?_⟩
            have := HKM.out
            simp [intOf]
            omega
          · have hltc : ¬ (key x : Int) < (key y : Int) := by omega
            have HZ : Hid (∀ z ∈ M1, kI z ≤ kI x) := by
              intro z hz
              have hs := hM.out.2.1
              rw [hJ.out.2.1, hM1] at hs
              have hs1 := (List.pairwise_append.1 hs).1
              rw [hM1] at hz
              rcases List.mem_append.1 hz with q | q
              · have := (List.pairwise_append.1 hs1).2.2 z q y (by simp)
                unfold kI at this ⊢
                omega
              · rw [List.mem_singleton.1 q]; unfold kI; omega
            clear hW2 ex ey hsw hM1 hJ hl1 hkm
            go_wp2_with fail
            refine wp_region_quiet_lit (by kernel_rfl) (by kernel_rfl) ?_
            iterate 16
              with_reducible refine wpQuiet_step ?_
              intro K hK
              go_simp
              first
                | (with_reducible refine hK _ ?_; clear hK K)
                | (with_reducible refine (if_neg ?_).mpr (hK _ ?_)
                   · decide
                   clear hK K)
                | (with_reducible refine ⟨.int .u64 ((key x : Nat) : Int), fun aw => (hKx _).mono ?_, hK _ ?_⟩
                   · rintro e w' ⟨rfl, rfl⟩; exact ⟨rfl, _, rfl⟩
                   clear hK K)
                | (with_reducible refine ⟨.int .u64 ((key y : Nat) : Int), fun aw => (hKy _).mono ?_, hK _ ?_⟩
                   · rintro e w' ⟨rfl, rfl⟩; exact ⟨rfl, _, rfl⟩
                   clear hK K)
                | (apply Exists.intro
                   refine ⟨fun _ => ?_, hK _ ?_⟩
                   · with_reducible rfl
                   clear hK K)
            refine wpQuiet_nil ?_
            rintro _ ⟨nq, rfl⟩
            go_wp2_with fail
            have hz := HEND.out HZ.out
            have hg := HG.out
            refine ⟨⟨i + 1, M1 ++ x :: M2, by go_num, hi1, hz, ArC.own (ArC.drewN hW.out nq) hz.1 hg.1 hg.2.1 hg.2.2, HK7.out.oth (kj.drewN nq) hg.1⟩, ?_⟩
            simp [intOf]
            omega
        · have c1 : decide ((k : Int) > 0) = false := decide_eq_false (by omega)
          have c1n : ¬ 0 < k := hk0
          have HZ : Hid (∀ z ∈ M1, kI z ≤ kI x) := by
            intro z hz
            have h1 := hJ.out.1
            have : M1 = [] := List.eq_nil_of_length_eq_zero (by omega)
            rw [this] at hz
            cases hz
          clear hk0 hJ
          go_wp2_with fail
          refine wp_region_quiet_lit (by kernel_rfl) (by kernel_rfl) ?_
          iterate 16
            with_reducible refine wpQuiet_step ?_
            intro K hK
            go_simp
            first
              | (with_reducible refine hK _ ?_; clear hK K)
              | (with_reducible refine (if_neg ?_).mpr (hK _ ?_)
                 · decide
                 clear hK K)
              | (apply Exists.intro
                 refine ⟨fun _ => ?_, hK _ ?_⟩
                 · with_reducible rfl
                 clear hK K)
          refine wpQuiet_nil ?_
          rintro _ ⟨nq, rfl⟩
          go_wp2_with fail
          have hz := HEND.out HZ.out
          have hg := HG.out
          refine ⟨⟨i + 1, M1 ++ x :: M2, by go_num, hi1, hz, ArC.own (ArC.drewN hW.out nq) hz.1 hg.1 hg.2.1 hg.2.2, HK7.out.oth (kj.drewN nq) hg.1⟩, ?_⟩
          simp [intOf]
          omega
    · have hic : ¬ (i : Int) < (n : Int) := by omega
      obtain rfl : i = n := by omega
      go_wp2_with fail
      go_ret
      have h := hM.out
      first | refine ⟨_, M, rfl, h.1, h.2.1, ?_, hown, kw⟩ | refine ⟨_, rfl, M, h.1, h.2.1, ?_, hown, kw⟩
      have := h.2.2
      rw [← HN.out, List.take_length] at this
      exact this
end Go.Proofs.Ytjiflgdbgpegiaa
