import Derived.Test.YtjbiknnichfajaaS7
set_option linter.unusedVariables false
set_option linter.unusedSimpArgs false
namespace Go.Proofs.Ytjbiknnichfajaa
open Go.RowKit Go.Shelf
theorem set0 {T : Nat} {w : World} {g : Nat} {x0 x1 x2 : Value} (v : Value) (h : w.heap[g]? = some (.cells #[x0, x1, x2] T (0, 0))) : (w.setCell ⟨g, 0, none⟩ v).heap[g]? = some (.cells #[v, x1, x2] T (0, 0)) := by
  have a0 := heap_setCell_same w g 0 _ T v h
  simpa using a0
theorem set1 {T : Nat} {w : World} {g : Nat} {x0 x1 x2 : Value} (v : Value) (h : w.heap[g]? = some (.cells #[x0, x1, x2] T (0, 0))) : (w.setCell ⟨g, 1, none⟩ v).heap[g]? = some (.cells #[x0, v, x2] T (0, 0)) := by
  have a0 := heap_setCell_same w g 1 _ T v h
  simpa using a0
theorem less_iff {y x : Nat} (hy : y < 18446744073709551616) (hx : x < 18446744073709551616) (ny : ¬ isNaN y) (nx : ¬ isNaN x) : (FloatKind.f64.format.order y x == some .lt) = decide (key y < key x) := by
  rcases Nat.lt_trichotomy (key y) (key x) with h | h | h
  · rw [ord_lt hy hx ny nx h, decide_eq_true h]; rfl
  · rw [ord_eq hy hx ny nx h, decide_eq_false (by omega)]; rfl
  · rw [ord_gt hy hx ny nx h, decide_eq_false (by omega)]; rfl
theorem same_iff {y x : Nat} (hy : y < 18446744073709551616) (hx : x < 18446744073709551616) (ny : ¬ isNaN y) (nx : ¬ isNaN x) : (FloatKind.f64.format.order y x == some .eq) = decide (key y = key x) := by
  rcases Nat.lt_trichotomy (key y) (key x) with h | h | h
  · rw [ord_lt hy hx ny nx h, decide_eq_false (by omega)]; rfl
  · rw [ord_eq hy hx ny nx h, decide_eq_true h]; rfl
  · rw [ord_gt hy hx ny nx h, decide_eq_false (by omega)]; rfl
theorem tri {y x : Nat} (hy : y < 18446744073709551616) (hx : x < 18446744073709551616) (ny : ¬ isNaN y) (nx : ¬ isNaN x) : (key y = key x ∧ FloatKind.f64.format.order y x = some .eq) ∨ (key y ≠ key x ∧ FloatKind.f64.format.order y x = some .lt) ∨ (key y ≠ key x ∧ FloatKind.f64.format.order y x = some .gt) := by
  rcases Nat.lt_trichotomy (key y) (key x) with h | h | h
  · exact .inr (.inl ⟨by omega, ord_lt hy hx ny nx h⟩)
  · exact .inl ⟨h, ord_eq hy hx ny nx h⟩
  · exact .inr (.inr ⟨by omega, ord_gt hy hx ny nx h⟩)
set_option maxRecDepth 100000 in
set_option maxHeartbeats 4000000 in
theorem rcode_any (a a2 : Option Addr) (c c2 : Nat) (V : List (List Nat)) (T : List (List Int)) (f x : Nat) (w : World) (h : Bn w a a2 V T) (hf : f < V.length) (hf2 : f < T.length) (hR : ScR (V.getD f []) (T.getD f [])) (hx : x < 18446744073709551616) :
    Calls Try.prog 15 #[BV a V.length c a2 T.length c2, .int .i64 f, .float .f64 x] w fun e w' => e = .returned (CV (cdF (kys (V.getD f [])) (kts (T.getD f [])) x)) ∧ Keep w w' := by
  obtain ⟨w1, hw1, k1, t1, s1⟩ := boxed w #[.slice a V.length c, .slice a2 T.length c2] 25
  obtain ⟨w2, hw2, k2, t2, s2⟩ := boxed w1 #[.int .i64 0, .int .i64 0, .bool false] 28
  rw [s1] at t2
  have k12 := k1.trans k2
  have q1 := k2.at t1
  obtain ⟨c0, c1, f0, f1⟩ := cells2 q1
  obtain ⟨d0, d1, d2, g0, g1, g2⟩ := cells3 t2
  have hfc : (f : Int) < (V.length : Int) := by omega
  have hfc2 : (f : Int) < (T.length : Int) := by omega
  obtain ⟨b, o, xa, xc, rfl, p1, p2, p3, p4⟩ := (h.keep k12).rv f hf
  obtain ⟨b2, o2, ya, yc, rfl, r1, r2, r3⟩ := (h.keep k12).rt f hf2
  clear h
  generalize V.getD f [] = l at *
  generalize T.getD f [] = t at *
  by_cases hn : isNaN x
  · have ho : (FloatKind.f64.format.order x x != some .eq) = true := by rw [ord_nan (x := x) (y := x) (.inl hn)]; rfl
    rw [cd_nan hn]
    clear hn
    go_enter Try.func15, Try.ntmps15
    go_wp2_with (first | rw [hw1] | rw [hw2])
    have hh := heap3 w2 (w.heap.size + 1) (.int .i64 0) (.int .i64 (-1)) (.bool true) t2
    have kk := keep3 k12 (w.heap.size + 1) (by omega) (.int .i64 0) (.int .i64 (-1)) (.bool true)
    exact bodyPost_ret (ret_code rfl _ _ (w.heap.size + 1) _ _ _ rfl hh) rfl ⟨rfl, kk⟩
  · have ho : (FloatKind.f64.format.order x x != some .eq) = false := by rw [ord_self hx hn]; rfl
    rw [cd_num hn]
    obtain ⟨w3, hw3, k3, t3, s3⟩ := boxed w2 #[.int .i64 0, .int .i64 0, .bool false] 28
    rw [s2, s1] at t3
    obtain ⟨m0, m1, m2, n0, n1, n2⟩ := cells3 t3
    have hh3 := heap3 w3 (w.heap.size + 1 + 1) (.int .i64 0) (.int .i64 (-1)) (.bool false) t3
    have kk3 := keep3 k3 (w.heap.size + 1 + 1) (by omega) (.int .i64 0) (.int .i64 (-1)) (.bool false)
    obtain ⟨w4, hw4⟩ : ∃ w4, (((w3.setCell ⟨w.heap.size + 1 + 1, 0, none⟩ (.int .i64 0)).setCell ⟨w.heap.size + 1 + 1, 1, none⟩ (.int .i64 (-1))).setCell ⟨w.heap.size + 1 + 1, 2, none⟩ (.bool false)) = w4 := ⟨_, rfl⟩
    rw [hw4] at hh3 kk3
    obtain ⟨PN, hPN⟩ : ∃ PN : Nat → Nat, ∀ i, PN i = pl ((kys l).take i) (key x) := ⟨_, fun _ => rfl⟩
    obtain ⟨CN, hCN⟩ : ∃ CN : Nat → Int, ∀ i, CN i = ctF (kts t) (key x) i := ⟨_, fun _ => rfl⟩
    have HP0 : Hid (PN 0 = 0) := hPN 0
    have HPL : Hid (∀ i, i < l.length → PN (i + 1) = PN i + if key (l.getD i 0) < key x then 1 else 0) := fun i hi => by rw [hPN, hPN, pl_succ (kys l) (key x) i (by rw [kys_len]; exact hi), kys_get l i hi]
    have HPE : Hid (pl (kys l) (key x) = PN l.length) := by show _ = _; rw [hPN, ← kys_len l, List.take_length]
    have HPB : Hid (∀ i, PN i ≤ i) := fun i => by rw [hPN]; exact Nat.le_trans (pl_le _ _) (by rw [List.length_take]; omega)
    have HC0 : Hid (CN 0 = -1) := hCN 0
    have HCT : Hid (∀ i, i < t.length → CN (i + 1) = if kf (t.getD i 0) = key x then (i : Int) else CN i) := fun i hi => by rw [hCN, hCN]; show (if (kts t).getD i 0 = key x then (i : Int) else ctF (kts t) (key x) i) = _; rw [kts_get t i hi]
    have HCE : Hid (ctF (kts t) (key x) (kts t).length = CN t.length) := by show _ = _; rw [hCN, kts_len]
    have HNN : Hid (∀ j, j < l.length → (FloatKind.f64.format.order (l.getD j 0) x == some .lt) = decide (key (l.getD j 0) < key x)) := fun j hj => less_iff (p4 j hj) hx (hR.nn j hj) hn
    have HEE : Hid (∀ j, j < t.length → (kf (t.getD j 0) = key x ∧ FloatKind.f64.format.order (floatOfInt FloatKind.f64 (t.getD j 0)) x = some .eq) ∨ (kf (t.getD j 0) ≠ key x ∧ FloatKind.f64.format.order (floatOfInt FloatKind.f64 (t.getD j 0)) x = some .lt) ∨ (kf (t.getD j 0) ≠ key x ∧ FloatKind.f64.format.order (floatOfInt FloatKind.f64 (t.getD j 0)) x = some .gt)) := fun j hj => tri (Nat.lt_trans (fl_ok (hR.ct j hj).1 (hR.ct j hj).2) (by omega)) hx (fl_num (hR.ct j hj).1 (hR.ct j hj).2) hn
    rw [HCE.out, HPE.out]
    clear hPN hCN hR hn HCE HPE
    have sz2 : w2.heap.size = w.heap.size + 1 + 1 := by omega
    go_enter Try.func15, Try.ntmps15
    go_wp2_with (first | rw [hw1] | rw [hw2] | rw [hw3] | rw [hw4])
    clear hw1 hw2 hw3 hw4 m0 m1 m2 n0 n1 n2 t3 s3
    go_loopw [8] (fun i wr => ∃ k : Nat, k ≤ l.length ∧ i = .int .i64 k ∧ Keep w2 wr ∧ wr.heap[w.heap.size + 1 + 1]? = some (.cells #[.int .i64 (PN k : Nat), .int .i64 (-1), .bool false] 28 (0, 0))) (fun i _ => l.length - (intOf i).toNat)
    case atStart => exact ⟨0, by omega, rfl, kk3, by rw [HP0.out]; exact hh3⟩
    case round =>
      obtain ⟨k, hk, rfl, kw, ht⟩ := hrel
      have y0 := kw.cell c0
      have y1 := kw.cell c1
      have pp := kw.cell p1
      obtain ⟨m0, m1, m2, n0, n1, n2⟩ := cells3 ht
      by_cases hkl : k < l.length
      · have hkc : (k : Int) < (l.length : Int) := by omega
        obtain ⟨b3, o3, rfl, cv⟩ := (p2.keep kw) k hkl
        have hle := HNN.out k hkl
        have hpl := HPL.out k hkl
        have hpb := HPB.out k
        generalize l.getD k 0 = v at cv hle hpl
        generalize PN k = pk at *
        by_cases hlt : key v < key x
        · rw [decide_eq_true hlt] at hle
          rw [if_pos hlt] at hpl
          replace hpl : Hid _ := hpl
          clear hlt
          go_wp2_with fail
          go_roundw
          case rel => exact ⟨k + 1, by omega, by go_num, kw.setCell (p := ⟨w.heap.size + 1 + 1, 0, none⟩) (by simp only [sz2]; exact Nat.le_refl _) _, by rw [hpl.out]; exact set0 _ ht⟩
          case measure => simp [intOf]; omega
        · rw [decide_eq_false hlt] at hle
          rw [if_neg hlt] at hpl
          replace hpl : Hid _ := hpl
          clear hlt
          go_wp2_with fail
          go_roundw
          case rel => exact ⟨k + 1, by omega, by go_num, kw, by rw [hpl.out]; exact ht⟩
          case measure => simp [intOf]; omega
      · have hkc : ¬ (k : Int) < (l.length : Int) := by omega
        obtain rfl : k = l.length := by omega
        go_wp2_with fail
        clear m0 m1 m2 n0 n1 n2 y0 y1 pp
        go_loopw [9] (fun i wr => ∃ k : Nat, k ≤ t.length ∧ i = .int .i64 k ∧ Keep w2 wr ∧ wr.heap[w.heap.size + 1 + 1]? = some (.cells #[.int .i64 (PN l.length : Nat), .int .i64 (CN k), .bool false] 28 (0, 0))) (fun i _ => t.length - (intOf i).toNat)
        case atStart => exact ⟨0, by omega, rfl, kw, by rw [HC0.out]; exact ht⟩
        case round =>
          clear kw ht
          obtain ⟨k, hk, rfl, kw, ht⟩ := hrel
          have y0 := kw.cell c0
          have y1 := kw.cell c1
          have rr := kw.cell r1
          obtain ⟨m0, m1, m2, n0, n1, n2⟩ := cells3 ht
          by_cases hkl : k < t.length
          · have hkc : (k : Int) < (t.length : Int) := by omega
            obtain ⟨b3, o3, rfl, cv⟩ := (r2.keep kw) k hkl
            have hle := HEE.out k hkl
            have hpl := HCT.out k hkl
            generalize t.getD k 0 = v at cv hle hpl
            generalize CN k = ck at *
            rcases hle with ⟨hlt, hle⟩ | ⟨hlt, hle⟩ | ⟨hlt, hle⟩
            · rw [if_pos hlt] at hpl
              replace hpl : Hid _ := hpl
              clear hlt
              go_wp2_with fail
              go_roundw
              case rel => exact ⟨k + 1, by omega, by go_num, kw.setCell (p := ⟨w.heap.size + 1 + 1, 1, none⟩) (by simp only [sz2]; exact Nat.le_refl _) _, by rw [hpl.out]; exact set1 _ ht⟩
              case measure => simp [intOf]; omega
            · rw [if_neg hlt] at hpl
              replace hpl : Hid _ := hpl
              clear hlt
              go_wp2_with fail
              go_roundw
              case rel => exact ⟨k + 1, by omega, by go_num, kw, by rw [hpl.out]; exact ht⟩
              case measure => simp [intOf]; omega
            · rw [if_neg hlt] at hpl
              replace hpl : Hid _ := hpl
              clear hlt
              go_wp2_with fail
              go_roundw
              case rel => exact ⟨k + 1, by omega, by go_num, kw, by rw [hpl.out]; exact ht⟩
              case measure => simp [intOf]; omega
          · have hkc : ¬ (k : Int) < (t.length : Int) := by omega
            obtain rfl : k = t.length := by omega
            have t2w := kw.at t2
            obtain ⟨e0, e1, e2, j0, j1, j2⟩ := cells3 t2w
            go_wp2_with fail
            have hh := heap3 wr (w.heap.size + 1) (.int .i64 (PN l.length : Nat)) (.int .i64 (CN t.length)) (.bool false) t2w
            have kk := keep3 (k12.trans kw) (w.heap.size + 1) (by omega) (.int .i64 (PN l.length : Nat)) (.int .i64 (CN t.length)) (.bool false)
            exact bodyPost_ret (ret_code rfl _ _ (w.heap.size + 1) _ _ _ rfl hh) rfl ⟨rfl, kk⟩
end Go.Proofs.Ytjbiknnichfajaa
