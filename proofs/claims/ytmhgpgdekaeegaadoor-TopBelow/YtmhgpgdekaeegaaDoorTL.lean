import Derived.Test.YtmhgpgdekaeegaaDoorTM
import Derived.Test.YtmhgpgdekaeegaaDoorOSD3
import Derived.Test.YtmhgpgdekaeegaaDoorOA5
set_option linter.unusedVariables false
set_option linter.unusedSimpArgs false
namespace Go.Proofs.YtmhgpgdekaeegaaDoor
open Go.RowKit Go.Shelf
theorem cmpV_lt {x y : Nat} (h : key x < key y) : cmpV (key x) (key y) = -1 := by unfold cmpV; rw [if_pos h]
theorem cmpV_ge {x y : Nat} (h : ¬ key x < key y) : ∃ cv, cmpV (key x) (key y) = cv ∧ ¬ cv < 0 := by
  refine ⟨_, rfl, ?_⟩
  unfold cmpV
  rw [if_neg h]
  split <;> decide
theorem Tab_keep {w w' : World} (h : Bi.Tab w) (k : Keep w w') : Bi.Tab w' := fun i hi => k.cell (h i hi)
theorem Rd_row {w : World} {g : Nat} {l : List Nat} (h : Bi.Row w g l) : Bi.Rd w (some ⟨g, 0, none⟩) l := by
  intro j hj
  exact ⟨g, 0, rfl, by rw [Nat.zero_add]; exact h.cell j hj⟩
theorem Distinct_two (w : World) : Calls Tryd.prog 4 #[.slice (some ⟨w.heap.size, 0, none⟩) 3 3] (w.alloc (Obj.cells #[Value.float .f64 4611686018427387904, Value.float .f64 4607182418800017408, Value.float .f64 4611686018427387904] 23)) fun e w' => ∃ g cap, e = .returned (.slice (some ⟨g, 0, none⟩) 2 cap) ∧ Arr w' g [4607182418800017408, 4611686018427387904] ∧ Keep w w' := by
  have hF : F64 [4611686018427387904, 4607182418800017408, 4611686018427387904] := by
    intro x hx
    simp at hx
    omega
  have hR : RdV (w.alloc (Obj.cells #[Value.float .f64 4611686018427387904, Value.float .f64 4607182418800017408, Value.float .f64 4611686018427387904] 23)) (some ⟨w.heap.size, 0, none⟩) [4611686018427387904, 4607182418800017408, 4611686018427387904] := by
    intro i hi
    refine ⟨_, 0, rfl, ?_⟩
    rw [Nat.zero_add, cell_of_row _ _ _ _ 23 (0, 0) (heap_alloc_new w _)]
    match i, hi with
    | 0, _ => rfl
    | 1, _ => rfl
    | 2, _ => rfl
    | i + 3, hi => exact absurd hi (by simp)
  refine (Distinct_any (some ⟨w.heap.size, 0, none⟩) 3 3 _ _ hF rfl (by omega) hR).mono ?_
  rintro e w' ⟨g, cap, D, rfl, d, o, k⟩
  obtain rfl : D = [4607182418800017408, 4611686018427387904] := d.one dst_two (fun _ => Iff.rfl)
  exact ⟨g, cap, rfl, own_arr (r := []) (by rw [List.append_nil]; exact o), Keep.trans ((Keep.refl w).alloc _) k⟩
set_option maxRecDepth 100000 in
set_option maxHeartbeats 4000000 in
/-- TopBelow. -/
theorem law_below (p : Option Addr) (c n y : Nat) (l : List Nat) (w : World) (hF : F64 l) (hn : l.length = n) (hl : n ≤ 17592186044414) (hy : y < 18446744073709551616) (hL : RdV w p l) (hT : Bi.Tab w) :
    Calls Tryd.prog 3 #[.slice p n c, .float .f64 y] w fun e w' => e = .returned (.bool true) ∧ Keep w w' := by
  have h4 := Distinct_any p c n l w hF hn hl hL
  have HT : Hid (Bi.Tab w) := hT
  have HN : Hid (l.length = n) := hn
  have t1 : True := trivial
  have e10 : FloatKind.f64.format.order 4607182418800017408 4607182418800017408 = some .eq := by decide +kernel
  have hB2 : ∀ g cap wx, Arr wx g [4607182418800017408, 4611686018427387904] → Calls Tryd.prog 5 #[.slice (some ⟨g, 0, none⟩) 2 cap, .float .f64 4611686018427387904] wx fun e w' => e = .returned (.int .i64 1) ∧ w' = wx := by
    intro g cap wx hA
    have h := Below_any g cap 2 4611686018427387904 _ wx (by intro x hx; simp at hx; omega) rfl (by omega) (by omega) hA
    rw [blw_two] at h
    exact h
  clear hL hn hF hT
  go_enter Tryd.func3, Tryd.ntmps3
  go_wp2_with (go_at_call 4; clear t1; refine h4.mono ?_; rintro e w1 ⟨g, cap, D, rfl, d1, o1, k1⟩; have HD : Hid (Dst l D) := d1; have hA1 : Hid (Arr w1 g D) := own_arr (r := []) (by rw [List.append_nil]; exact o1); have K1 : Hid (Keep w w1) := k1; obtain ⟨L, hL⟩ : ∃ L, D.length = L := ⟨_, rfl⟩; have HL : Hid (D.length = L) := hL; rw [hL]; clear d1 o1 k1 hL h4)
  refine (Distinct_two w1).mono ?_
  rintro e w2 ⟨g2, cap2, rfl, hA2, k2⟩
  have K2 : Hid (Keep w1 w2) := k2
  have c0 := hA2.cell (j := 0) (by decide)
  have hB := hB2 g2 cap2 w2 hA2
  have hLn : L ≤ n := by have h := HD.out.len; rw [HL.out, HN.out] at h; exact h
  clear hA2 k2 hB2
  by_cases hLM : L ≤ 1048576
  · have hLc : ¬ ((1048576 : Int) < (L : Int)) := by omega
    have hD64 : Hid (F64 D) := HD.out.f64
    obtain ⟨N, hN⟩ : ∃ N, blw D y = N := ⟨_, rfl⟩
    have HNN : Hid (blw D y = N) := hN
    have hNL : N ≤ L := by have := blw_le D y; rw [HL.out, hN] at this; exact this
    have HR : Hid (∀ i, i < L → (key (D.getD i 0) < key y ↔ i < N)) := by
      intro i hi
      rw [← hN]
      exact blw_rise y HD.out.rise i (by rw [HL.out]; exact hi)
    have hBD : Calls Tryd.prog 5 #[.slice (some ⟨g, 0, none⟩) L cap, .float .f64 y] w2 fun e w' => e = .returned (.int .i64 (N : Int)) ∧ w' = w2 := by
      have h := Below_any g cap L y D w2 hD64.out HL.out (by omega) hy (hA1.out.keep K2.out)
      rw [hN] at h
      exact h
    have hM := Bi.Mask_ok L 0 N w2 hLM (by omega) hNL
    have s1 : True := trivial
    obtain ⟨r, hr⟩ : ∃ r, L - N = r := ⟨_, rfl⟩
    have hrc : (L : Int) - (N : Int) = (r : Int) := by omega
    have HRr : Hid (L - N = r) := hr
    clear hN hr
    go_wp2_with (first
      | (go_at_call 5; clear s1; refine hB.mono ?_; rintro e w3 ⟨rfl, hw3⟩; rw [hw3]; clear hw3 w3 hB)
      | (go_at_call 5; refine hBD.mono ?_; rintro e w3 ⟨rfl, hw3⟩; rw [hw3]; clear hw3 w3)
      | (go_at_call 6; refine hM.mono ?_; rintro e w4 ⟨m, rfl, hr4, hm4, k4⟩; have HM : Hid (Bi.mkl L (fun i => !decide (0 ≤ i ∧ i < N)) m) := hm4; have hR4 : Hid (Bi.Rd w4 (some ⟨w2.heap.size, 0, none⟩) m) := Rd_row hr4; have K4 : Hid (Keep w2 w4) := k4; obtain ⟨ml, hml⟩ : ∃ ml, m.length = ml := ⟨_, rfl⟩; have HML : Hid (m.length = ml) := hml; rw [hml]; have hml2 : ml ≤ 16384 := (by have := hm4.1; omega); clear hr4 hm4 k4 hml hM))
    have hC7 : Calls Tryd.prog 7 #[.slice (some ⟨w2.heap.size, 0, none⟩) ml ml] w4 fun e w' => e = .returned (.int .i64 (r : Int)) ∧ w' = w4 := by
      have h := Bi.Count_any (some ⟨w2.heap.size, 0, none⟩) ml m w4 (by rw [HML.out]; omega) hR4.out HM.out.2.1
      rw [mask_count HM.out, HRr.out, HML.out] at h
      exact h
    have hC8 : Calls Tryd.prog 8 #[.slice (some ⟨w2.heap.size, 0, none⟩) ml ml] w4 fun e w' => e = .returned (.int .i64 (Bi.selI m 0)) ∧ w' = w4 := by
      have h := Bi.Lowest_any (some ⟨w2.heap.size, 0, none⟩) ml m w4 (by rw [HML.out]; omega) hR4.out HM.out.2.1 (Tab_keep HT.out ((K1.out.trans K2.out).trans K4.out))
      rw [HML.out] at h
      exact h
    have hC9 : ∀ i : Nat, i < L → Calls Tryd.prog 9 #[.slice (some ⟨w2.heap.size, 0, none⟩) ml ml, .int .i64 (i : Int)] w4 fun e w' => e = .returned (.bool (decide (N ≤ i))) ∧ w' = w4 := by
      intro i hi
      have h := Bi.Has_any (some ⟨w2.heap.size, 0, none⟩) ml m (i : Int) w4 (by rw [HML.out]; omega) (by omega) hR4.out HM.out.2.1
      rw [mask_has HM.out hi, HML.out] at h
      exact h
    have hcell : Hid (∀ i, i < L → w4.cell? ⟨g, i, none⟩ = some (.float .f64 (D.getD i 0)) ∧ D.getD i 0 < 18446744073709551616) := by
      intro i hi
      exact ⟨(K2.out.trans K4.out).cell (hA1.out.cell (by rw [HL.out]; exact hi)), hD64.out.at i (by rw [HL.out]; exact hi)⟩
    have hrise : Hid (∀ i, i + 1 < L → key (D.getD i 0) < key (D.getD (i + 1) 0)) := by
      intro i hi
      have hi2 : i + 1 < D.length := by rw [HL.out]; exact hi
      have := List.pairwise_iff_getElem.1 HD.out.rise i (i + 1) (by omega) hi2 (by omega)
      simpa [List.getD, show i < D.length by omega, hi2] using this
    have hCmp := fun a b wx (ha : a < 18446744073709551616) (hb : b < 18446744073709551616) => Compare_any a b wx ha hb
    have KK : Hid (Keep w w4) := (K1.out.trans K2.out).trans K4.out
    have hnan : Hid (∀ i, i < L → ¬ isNaN (D.getD i 0)) := by
      intro i hi
      exact HD.out.nanless (by simp [List.getD, show i < D.length by rw [HL.out]; exact hi])
    obtain ⟨kv, hkv⟩ : ∃ kv, Bi.selI m 0 = kv := ⟨_, rfl⟩
    rw [hkv] at hC8
    by_cases hNlt : N < L
    · have hk : kv = (N : Int) := by rw [← hkv]; exact mask_low HM.out hNlt
      subst hk
      clear hkv
      refine hC7.mono ?_
      rintro e w5 ⟨rfl, hw5⟩
      rw [hw5]
      clear hw5 w5 hC7
      go_wp2_with (go_at_call 8; refine hC8.mono ?_; rintro e w6 ⟨rfl, hw6⟩; rw [hw6]; clear hw6 w6 hC8)
      go_loopw [74] (fun iv wr => ∃ i : Nat, iv = .int .i64 (i : Int) ∧ i ≤ L ∧ w4 = wr) (fun iv _ => L - (intOf iv).toNat)
      case atStart => exact ⟨0, rfl, by omega, rfl⟩
      case round =>
        obtain ⟨i, rfl, hi, hwr⟩ := hrel
        subst hwr
        by_cases hin : i < L
        · have hic : (i : Int) < (L : Int) := by omega
          obtain ⟨cx, hx64⟩ := hcell.out i hin
          have hH := hC9 i hin
          have hxr := HR.out i hin
          obtain ⟨x, hx0⟩ : ∃ x, D.getD i 0 = x := ⟨_, rfl⟩
          rw [hx0] at cx hx64 hxr
          by_cases hiN : i < N
          · have hP1 : Calls Tryd.prog 10 #[.float .f64 x, .float .f64 y] w4 fun e w' => e = .returned (.int .i64 (-1)) ∧ w' = w4 := by
              have h := hCmp x y w4 hx64 hy
              rw [cmpV_lt (hxr.2 hiN)] at h
              exact h
            rw [decide_eq_false (by omega)] at hH
            by_cases hi0 : i = 0
            · subst hi0
              clear hxr
              have s2 : True := trivial
              go_wp2_with (first
                | (go_at_call 9; refine hH.mono ?_; rintro e w7 ⟨rfl, hw7⟩; rw [hw7]; clear hw7 w7)
                | (go_at_call 10; clear s2; refine hP1.mono ?_; rintro e w7 ⟨rfl, hw7⟩; rw [hw7]; clear hw7 w7))
              refine ⟨⟨1, by go_num, by omega, by trivial⟩, ?_⟩
              simp [intOf]; omega
            · obtain ⟨j, hj⟩ : ∃ j, i = j + 1 := ⟨i - 1, by omega⟩
              subst hj
              obtain ⟨cx', hx'64⟩ := hcell.out j (by omega)
              have hlt' := hrise.out j hin
              rw [hx0] at hlt'
              obtain ⟨x', hx'0⟩ : ∃ x', D.getD j 0 = x' := ⟨_, rfl⟩
              rw [hx'0] at cx' hx'64 hlt'
              have hP2 : Calls Tryd.prog 10 #[.float .f64 x', .float .f64 x] w4 fun e w' => e = .returned (.int .i64 (-1)) ∧ w' = w4 := by
                have h := hCmp x' x w4 hx'64 hx64
                rw [cmpV_lt hlt'] at h
                exact h
              have hsub : ((j : Int) + 1) - 1 = (j : Int) := by omega
              have hjm : IntKind.i64.wrap ((j : Int) + 1 - 1) = (j : Int) := by rw [IntWalk.i64_left, hsub]; exact IntWalk.wrap64_in _ (by omega)
              have c1 : decide (((j + 1 : Nat) : Int) > 0) = true := decide_eq_true (by omega)
              have cjL : j < L := by omega
              have cjc : (j : Int) < (L : Int) := by omega
              clear hxr hx0 hx'0 hlt'
              have s2 : True := trivial
              go_wp2_with (first
                | (go_at_call 9; refine hH.mono ?_; rintro e w7 ⟨rfl, hw7⟩; rw [hw7]; clear hw7 w7)
                | (go_at_call 10; clear s2; refine hP1.mono ?_; rintro e w7 ⟨rfl, hw7⟩; rw [hw7]; clear hw7 w7)
                | (go_at_call 10; refine hP2.mono ?_; rintro e w7 ⟨rfl, hw7⟩; rw [hw7]; clear hw7 w7))
              refine ⟨⟨j + 1 + 1, by go_num, by omega, by trivial⟩, ?_⟩
              simp [intOf]; omega
          · obtain ⟨cv, hcv, hcn⟩ := cmpV_ge (x := x) (y := y) (fun q => hiN (hxr.1 q))
            have hP1 : Calls Tryd.prog 10 #[.float .f64 x, .float .f64 y] w4 fun e w' => e = .returned (.int .i64 cv) ∧ w' = w4 := by
              have h := hCmp x y w4 hx64 hy
              rw [hcv] at h
              exact h
            rw [decide_eq_true (by omega)] at hH
            clear hcv
            by_cases hi0 : i = 0
            · subst hi0
              clear hxr
              have s2 : True := trivial
              go_wp2_with (first
                | (go_at_call 9; refine hH.mono ?_; rintro e w7 ⟨rfl, hw7⟩; rw [hw7]; clear hw7 w7)
                | (go_at_call 10; clear s2; refine hP1.mono ?_; rintro e w7 ⟨rfl, hw7⟩; rw [hw7]; clear hw7 w7))
              refine ⟨⟨1, by go_num, by omega, by trivial⟩, ?_⟩
              simp [intOf]; omega
            · obtain ⟨j, hj⟩ : ∃ j, i = j + 1 := ⟨i - 1, by omega⟩
              subst hj
              obtain ⟨cx', hx'64⟩ := hcell.out j (by omega)
              have hlt' := hrise.out j hin
              rw [hx0] at hlt'
              obtain ⟨x', hx'0⟩ : ∃ x', D.getD j 0 = x' := ⟨_, rfl⟩
              rw [hx'0] at cx' hx'64 hlt'
              have hP2 : Calls Tryd.prog 10 #[.float .f64 x', .float .f64 x] w4 fun e w' => e = .returned (.int .i64 (-1)) ∧ w' = w4 := by
                have h := hCmp x' x w4 hx'64 hx64
                rw [cmpV_lt hlt'] at h
                exact h
              have hsub : ((j : Int) + 1) - 1 = (j : Int) := by omega
              have hjm : IntKind.i64.wrap ((j : Int) + 1 - 1) = (j : Int) := by rw [IntWalk.i64_left, hsub]; exact IntWalk.wrap64_in _ (by omega)
              have c1 : decide (((j + 1 : Nat) : Int) > 0) = true := decide_eq_true (by omega)
              have cjL : j < L := by omega
              have cjc : (j : Int) < (L : Int) := by omega
              clear hxr hx0 hx'0 hlt'
              have s2 : True := trivial
              go_wp2_with (first
                | (go_at_call 9; refine hH.mono ?_; rintro e w7 ⟨rfl, hw7⟩; rw [hw7]; clear hw7 w7)
                | (go_at_call 10; clear s2; refine hP1.mono ?_; rintro e w7 ⟨rfl, hw7⟩; rw [hw7]; clear hw7 w7)
                | (go_at_call 10; refine hP2.mono ?_; rintro e w7 ⟨rfl, hw7⟩; rw [hw7]; clear hw7 w7))
              refine ⟨⟨j + 1 + 1, by go_num, by omega, by trivial⟩, ?_⟩
              simp [intOf]; omega
        · have hic : ¬ (i : Int) < (L : Int) := by omega
          obtain rfl : i = L := by omega
          clear hin hC9
          obtain ⟨cz, hz64⟩ := hcell.out N hNlt
          have hge := HR.out N hNlt
          have hzn := hnan.out N hNlt
          obtain ⟨z, hz0⟩ : ∃ z, D.getD N 0 = z := ⟨_, rfl⟩
          rw [hz0] at cz hz64 hge hzn
          have hge2 : ¬ key z < key y := fun q => Nat.lt_irrefl _ (hge.1 q)
          have hyn : ¬ isNaN y := by
            intro q
            have h1 := nan_key.1 q
            have h2 : key z ≠ 18437736874454810625 := fun e => hzn (nan_key.2 e)
            have h3 := key_le z
            omega
          have hyy : FloatKind.f64.format.order y y = some .eq := ord_eq hy hy hyn hyn rfl
          obtain ⟨b, hb⟩ : ∃ b, betN (key y) (key z) = b := ⟨_, rfl⟩
          have hk1 : key y ≠ 18437736874454810625 := fun e => hyn (nan_key.2 e)
          have hk2 : key z ≠ 18437736874454810625 := fun e => hzn (nan_key.2 e)
          have hb0 : 0 < b := by
            rw [← hb]
            unfold betN
            rw [if_neg (by omega)]
            omega
          have hbc : (0 : Int) < (b : Int) := by omega
          have hBt : Calls Tryd.prog 11 #[.float .f64 y, .float .f64 z] w4 fun e w' => e = .returned (.tuple #[.int .u64 (b : Nat), .int .i64 0]) ∧ w' = w4 := by
            have h := Between_any y z w4 hy hz64
            have he : betE (key y) (key z) = 0 := by unfold betE; rw [if_neg (by omega)]
            rw [hb, he] at h
            exact h
          have hN0 : ¬ (N : Int) < 0 := by omega
          have hNc : (N : Int) < (i : Int) := by omega
          clear hz0 hge hge2 hb hk1 hk2
          by_cases hZ : N = 0
          · subst hZ
            go_wp2_with (go_at_call 11; refine hBt.mono ?_; rintro e w7 ⟨rfl, hw7⟩; rw [hw7]; clear hw7 w7)
            go_ret
            exact ⟨rfl, KK.out⟩
          · obtain ⟨j, hj⟩ : ∃ j, N = j + 1 := ⟨N - 1, by omega⟩
            subst hj
            obtain ⟨cx', hx'64⟩ := hcell.out j (by omega)
            have hlt' := (HR.out j (by omega)).2 (by omega)
            obtain ⟨x', hx'0⟩ : ∃ x', D.getD j 0 = x' := ⟨_, rfl⟩
            rw [hx'0] at cx' hx'64 hlt'
            have hP2 : Calls Tryd.prog 10 #[.float .f64 x', .float .f64 y] w4 fun e w' => e = .returned (.int .i64 (-1)) ∧ w' = w4 := by
              have h := hCmp x' y w4 hx'64 hy
              rw [cmpV_lt hlt'] at h
              exact h
            have hsub : ((j : Int) + 1) - 1 = (j : Int) := by omega
            have hjm : IntKind.i64.wrap ((j : Int) + 1 - 1) = (j : Int) := by rw [IntWalk.i64_left, hsub]; exact IntWalk.wrap64_in _ (by omega)
            have hj0 : ¬ ((j : Int) + 1 = 0) := by omega
            have cjL : j < i := by omega
            have cjc : (j : Int) < (i : Int) := by omega
            clear hx'0 hlt' hZ
            go_wp2_with (first
              | (go_at_call 11; refine hBt.mono ?_; rintro e w7 ⟨rfl, hw7⟩; rw [hw7]; clear hw7 w7)
              | (go_at_call 10; refine hP2.mono ?_; rintro e w7 ⟨rfl, hw7⟩; rw [hw7]; clear hw7 w7))
            go_ret
            exact ⟨rfl, KK.out⟩
    · obtain rfl : N = L := by omega
      have hk : kv = -1 := by rw [← hkv]; exact mask_none HM.out (by omega)
      subst hk
      clear hkv
      refine hC7.mono ?_
      rintro e w5 ⟨rfl, hw5⟩
      rw [hw5]
      clear hw5 w5 hC7
      have hm1 : ¬ ((-1 : Int) = (N : Int)) := by omega
      go_wp2_with (go_at_call 8; refine hC8.mono ?_; rintro e w6 ⟨rfl, hw6⟩; rw [hw6]; clear hw6 w6 hC8)
      go_loopw [74] (fun iv wr => ∃ i : Nat, iv = .int .i64 (i : Int) ∧ i ≤ N ∧ w4 = wr) (fun iv _ => N - (intOf iv).toNat)
      case atStart => exact ⟨0, rfl, by omega, rfl⟩
      case round =>
        obtain ⟨i, rfl, hi, hwr⟩ := hrel
        subst hwr
        by_cases hin : i < N
        · have hic : (i : Int) < (N : Int) := by omega
          obtain ⟨cx, hx64⟩ := hcell.out i hin
          have hH := hC9 i hin
          have hxr := HR.out i hin
          obtain ⟨x, hx0⟩ : ∃ x, D.getD i 0 = x := ⟨_, rfl⟩
          rw [hx0] at cx hx64 hxr
          have hiN : i < N := hin
          have hP1 : Calls Tryd.prog 10 #[.float .f64 x, .float .f64 y] w4 fun e w' => e = .returned (.int .i64 (-1)) ∧ w' = w4 := by
            have h := hCmp x y w4 hx64 hy
            rw [cmpV_lt (hxr.2 hiN)] at h
            exact h
          rw [decide_eq_false (by omega)] at hH
          by_cases hi0 : i = 0
          · subst hi0
            clear hxr
            have s2 : True := trivial
            go_wp2_with (first
              | (go_at_call 9; refine hH.mono ?_; rintro e w7 ⟨rfl, hw7⟩; rw [hw7]; clear hw7 w7)
              | (go_at_call 10; clear s2; refine hP1.mono ?_; rintro e w7 ⟨rfl, hw7⟩; rw [hw7]; clear hw7 w7))
            refine ⟨⟨1, by go_num, by omega, by trivial⟩, ?_⟩
            simp [intOf]; omega
          · obtain ⟨j, hj⟩ : ∃ j, i = j + 1 := ⟨i - 1, by omega⟩
            subst hj
            obtain ⟨cx', hx'64⟩ := hcell.out j (by omega)
            have hlt' := hrise.out j hin
            rw [hx0] at hlt'
            obtain ⟨x', hx'0⟩ : ∃ x', D.getD j 0 = x' := ⟨_, rfl⟩
            rw [hx'0] at cx' hx'64 hlt'
            have hP2 : Calls Tryd.prog 10 #[.float .f64 x', .float .f64 x] w4 fun e w' => e = .returned (.int .i64 (-1)) ∧ w' = w4 := by
              have h := hCmp x' x w4 hx'64 hx64
              rw [cmpV_lt hlt'] at h
              exact h
            have hsub : ((j : Int) + 1) - 1 = (j : Int) := by omega
            have hjm : IntKind.i64.wrap ((j : Int) + 1 - 1) = (j : Int) := by rw [IntWalk.i64_left, hsub]; exact IntWalk.wrap64_in _ (by omega)
            have c1 : decide (((j + 1 : Nat) : Int) > 0) = true := decide_eq_true (by omega)
            have cjL : j < N := by omega
            have cjc : (j : Int) < (N : Int) := by omega
            clear hxr hx0 hx'0 hlt'
            have s2 : True := trivial
            go_wp2_with (first
              | (go_at_call 9; refine hH.mono ?_; rintro e w7 ⟨rfl, hw7⟩; rw [hw7]; clear hw7 w7)
              | (go_at_call 10; clear s2; refine hP1.mono ?_; rintro e w7 ⟨rfl, hw7⟩; rw [hw7]; clear hw7 w7)
              | (go_at_call 10; refine hP2.mono ?_; rintro e w7 ⟨rfl, hw7⟩; rw [hw7]; clear hw7 w7))
            refine ⟨⟨j + 1 + 1, by go_num, by omega, by trivial⟩, ?_⟩
            simp [intOf]; omega
        · have hic : ¬ (i : Int) < (N : Int) := by omega
          obtain rfl : i = N := by omega
          clear hin hC9
          by_cases hyn : isNaN y
          · have hyy : FloatKind.f64.format.order y y = none := ord_nan (.inl hyn)
            go_wp2_with fail
            go_ret
            exact ⟨rfl, KK.out⟩
          · have hyy : FloatKind.f64.format.order y y = some .eq := ord_eq hy hy hyn hyn rfl
            by_cases hZ : i = 0
            · subst hZ
              go_wp2_with fail
              go_ret
              exact ⟨rfl, KK.out⟩
            · obtain ⟨j, hj⟩ : ∃ j, i = j + 1 := ⟨i - 1, by omega⟩
              have HJ : Hid (i = j + 1) := hj
              obtain ⟨cx', hx'64⟩ := hcell.out j (by omega)
              have hlt' := (HR.out j (by omega)).2 (by omega)
              obtain ⟨x', hx'0⟩ : ∃ x', D.getD j 0 = x' := ⟨_, rfl⟩
              rw [hx'0] at cx' hx'64 hlt'
              have hP2 : Calls Tryd.prog 10 #[.float .f64 x', .float .f64 y] w4 fun e w' => e = .returned (.int .i64 (-1)) ∧ w' = w4 := by
                have h := hCmp x' y w4 hx'64 hy
                rw [cmpV_lt hlt'] at h
                exact h
              have hsub : (i : Int) - 1 = (j : Int) := by omega
              have hjm : IntKind.i64.wrap ((i : Int) - 1) = (j : Int) := by rw [IntWalk.i64_left, hsub]; exact IntWalk.wrap64_in _ (by omega)
              have hj0 : ¬ ((i : Int) = 0) := by omega
              have cjL : j < i := by omega
              have cjc : (j : Int) < (i : Int) := by omega
              clear hx'0 hlt' hj
              go_wp2_with (go_at_call 10; refine hP2.mono ?_; rintro e w7 ⟨rfl, hw7⟩; rw [hw7]; clear hw7 w7)
              go_ret
              exact ⟨rfl, KK.out⟩
  · have hLc : (1048576 : Int) < (L : Int) := by omega
    go_wp2_with (go_at_call 5; refine hB.mono ?_; rintro e w3 ⟨rfl, hw3⟩; rw [hw3]; clear hw3 w3 hB)
    go_ret
    exact ⟨rfl, K1.out.trans K2.out⟩
end Go.Proofs.YtmhgpgdekaeegaaDoor
