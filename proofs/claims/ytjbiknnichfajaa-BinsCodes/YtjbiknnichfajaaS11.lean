import Derived.Test.YtjbiknnichfajaaS10
set_option linter.unusedVariables false
set_option linter.unusedSimpArgs false
namespace Go.Proofs.Ytjbiknnichfajaa
open Go.RowKit Go.Shelf
attribute [local go_sem high] run_eqlC run_neqC run_guardC
theorem news_code (W : World) (p q : Int) (lo : Bool) : ∀ j u, (CvL [(p, q, lo)])[j]? = some u → (W.alloc (Obj.cells #[.int .i64 p, .int .i64 q, .bool lo] 28)).cell? ((⟨W.heap.size, 0, none⟩ : Addr).add j) = some u := by
  intro j u hj
  match j, hj with
  | 0, hj => simp [CvL] at hj; subst hj; show (W.alloc _).cell? ⟨W.heap.size, 0, none⟩ = _; rw [cell_of_row _ _ _ _ 28 (0, 0) (heap_alloc_new W _)]; rfl
  | 1, hj => simp [CvL] at hj; subst hj; show (W.alloc _).cell? ⟨W.heap.size, 1, none⟩ = _; rw [cell_of_row _ _ _ _ 28 (0, 0) (heap_alloc_new W _)]; rfl
  | 2, hj => simp [CvL] at hj; subst hj; show (W.alloc _).cell? ⟨W.heap.size, 2, none⟩ = _; rw [cell_of_row _ _ _ _ 28 (0, 0) (heap_alloc_new W _)]; rfl
  | j + 3, hj => simp [CvL] at hj
set_option maxRecDepth 100000 in
set_option maxHeartbeats 1000000 in
theorem rCodes_any (a a2 ax : Option Addr) (c c2 cx : Nat) (V : List (List Nat)) (T : List (List Int)) (xs : List Nat) (w : World) (h : Bn w a a2 V T) (hrx : RdF w ax xs) (hwx : W64 xs) (hnx : xs.length ≤ 17592186044416) :
    Calls Try.prog 5 #[BV a V.length c a2 T.length c2, .slice ax xs.length cx] w fun e w' => ∃ a' c', e = .returned (.tuple #[.slice a' (coA V T xs).length c', .int .i64 (coE V T xs.length)]) ∧ (coA V T xs).length ≤ c' ∧ RdC w' a' (coA V T xs) ∧ Keep w w' := by
  obtain ⟨w1, hw1, k1, t1, s1⟩ := boxed w #[.slice a V.length c, .slice a2 T.length c2] 25
  obtain ⟨b0, b1, f0, f1⟩ := cells2 t1
  have hB := h.keep k1
  have hRt := rRight_any a a2 c c2 V T w1 hB
  have hrx1 := hrx.keep k1
  clear h hrx
  obtain ⟨rb, hrb⟩ : ∃ rb, rightB V T = rb := ⟨_, rfl⟩
  rw [hrb] at hRt
  have hz : w.heap.size < w1.heap.size := by omega
  cases rb
  · have HE : Hid (coE V T xs.length = 200) := by show _ = _; unfold coE; rw [if_neg (by rw [hrb]; decide)]
    have HA : Hid (coA V T xs = []) := by show _ = _; unfold coA; rw [if_neg (by rw [hrb]; intro h; cases h.1)]
    rw [HE.out, HA.out]
    clear hrb
    go_enter Try.func5, Try.ntmps5
    go_wp2_with (first | rw [hw1] | (go_at_call 9; refine hRt.mono ?_; rintro e w3 ⟨rfl, k3⟩))
    go_ret2
    exact ⟨none, 0, rfl, Nat.le_refl _, fun j hj => by simp at hj, k1.trans k3⟩
  · obtain ⟨g1, g2, g3⟩ := right_parts hrb
    by_cases hn : xs.length = V.length
    · have HE : Hid (coE V T xs.length = 0) := by show _ = _; unfold coE; rw [if_pos hrb, if_pos hn]
      have HA : Hid (coA V T xs = cdsF V T xs) := by show _ = _; unfold coA; rw [if_pos ⟨hrb, hn⟩]
      rw [HE.out, HA.out]
      have e1 : ((xs.length : Int) != (V.length : Int)) = false := by simp; omega
      have hx65 : xs.length ≤ 65536 := by omega
      have G1 : Hid (V.length = T.length) := g1
      have GN : Hid (xs.length = V.length) := hn
      replace g3 : Hid _ := g3
      clear hrb g1 hn
      go_enter Try.func5, Try.ntmps5
      go_wp2_with (first
        | rw [hw1]
        | (go_at_call 9; refine hRt.mono ?_; rintro e w3 ⟨rfl, k3⟩; have x0 := k3.cell b0; have x1 := k3.cell b1; have hz3 : w.heap.size < w3.heap.size := Nat.lt_of_lt_of_le hz k3.le))
      go_loopw [7, 8] (fun v i wr => ∃ k : Nat, k ≤ xs.length ∧ i = .int .i64 k ∧ Keep w3 wr ∧ wr.ownsRow w3.heap.size 28 3 v k (CvL ((cdsF V T xs).take k))) (fun _ i _ => xs.length - (intOf i).toNat)
      case atStart => exact ⟨0, by omega, rfl, Keep.refl _, own_nil _ _ _ _⟩
      case round =>
        obtain ⟨k, hk, rfl, kw, hrow⟩ := hrel
        obtain ⟨wk, hwk⟩ : ∃ wk, wk = wr := ⟨_, rfl⟩
        subst hwk
        have kk := k3.trans kw
        have y0 := kk.cell b0
        have y1 := kk.cell b1
        have hzr : w.heap.size < wk.heap.size := Nat.lt_of_lt_of_le hz kk.le
        by_cases hkl : k < xs.length
        · have hkc : (k : Int) < (xs.length : Int) := by omega
          obtain ⟨bx, ox, rfl, cx1⟩ := (hrx1.keep kk) k hkl
          have hv := hwx k hkl
          have hkv : k < V.length := by have := GN.out; omega
          have hC := rcode_any a a2 c c2 V T k (xs.getD k 0) wk.drew ((hB.keep kk).keep (Keep.refl wk).drew) hkv (by have := G1.out; omega) (g3.out k hkv) hv
          have HT : Hid (CvL ((cdsF V T xs).take (k + 1)) = CvL ((cdsF V T xs).take k) ++ CvL [cdF (kys (V.getD k [])) (kts (T.getD k [])) (xs.getD k 0)]) := by show _ = _; rw [cds_take V T xs k hkl, CvL_app]
          generalize xs.getD k 0 = v at *
          obtain ⟨p, q, lo, hcd⟩ : ∃ p q lo, cdF (kys (V.getD k [])) (kts (T.getD k [])) v = (p, q, lo) := ⟨_, _, _, rfl⟩
          rw [hcd] at hC HT
          clear hcd
          generalize CvL ((cdsF V T xs).take k) = XS at *
          go_wp2_with fail
          go_region_law (first
            | (refine step_appG Try.underlying29 i28 rfl (by decide) (by decide) w3.heap.size rfl _ _ rfl k XS (CvL [(p, q, lo)]) _ (own_keep (own_keep hrow ((Keep.refl wk).drew.trans k6)) ((Keep.refl w6).alloc _)) (Nat.le_trans kw.le (Nat.le_trans ((Keep.refl wk).drew.trans k6).le ((Keep.refl w6).alloc _).le)) (by omega) ⟨w6.heap.size, 0, none⟩ 1 rfl (news_code w6 p q lo) (CvL_one _) rfl rfl ?_; intro v7 w7 o7 g7)
            | (go_simp; go_wp2_with (go_at_call 15; refine hC.mono ?_; rintro e w6 ⟨rfl, k6⟩)))
          all_goals
            have kd := (Keep.refl wk).drew.trans k6
            have ok7 : w7.ownsRow w3.heap.size 28 3 v7 (k + 1) (CvL ((cdsF V T xs).take (k + 1))) := by rw [HT.out]; exact o7
            have k7 := keep_grown ((kw.trans kd).alloc _) (own_keep (own_keep hrow kd) ((Keep.refl w6).alloc _)) g7
            clear o7 g7 hrow HT
            go_simp
            go_wp2_with fail
            go_roundw
            case rel => exact ⟨k + 1, by omega, by go_num, k7, ok7⟩
            case measure => simp [intOf]; omega
        · have hkc : ¬ (k : Int) < (xs.length : Int) := by omega
          obtain rfl : k = xs.length := by omega
          have hcl := cds_len V T xs
          have hta : (cdsF V T xs).take xs.length = cdsF V T xs := by rw [← hcl, List.take_length]
          rw [hta] at hrow
          have hrow2 : wk.ownsRow w3.heap.size 28 3 u7 (cdsF V T xs).length (CvL (cdsF V T xs)) := by rw [hcl]; exact hrow
          obtain ⟨a', c', hv, hc', hrd⟩ := own_rdc hrow2
          have HV : Hid _ := hv
          clear hta hrow hrow2 hcl
          subst hv
          go_wp2_with fail
          go_ret2
          exact ⟨a', c', rfl, hc', hrd, k1.trans kk⟩
    · have HE : Hid (coE V T xs.length = 72) := by show _ = _; unfold coE; rw [if_pos hrb, if_neg hn]
      have HA : Hid (coA V T xs = []) := by show _ = _; unfold coA; rw [if_neg (fun h => hn h.2)]
      rw [HE.out, HA.out]
      have e1 : ((xs.length : Int) != (V.length : Int)) = true := by simp; omega
      clear hrb hn g1 g2 g3
      go_enter Try.func5, Try.ntmps5
      go_wp2_with (first | rw [hw1] | (go_at_call 9; refine hRt.mono ?_; rintro e w3 ⟨rfl, k3⟩; have x0 := k3.cell b0; have x1 := k3.cell b1))
      go_ret2
      exact ⟨none, 0, rfl, Nat.le_refl _, fun j hj => by simp at hj, k1.trans k3⟩
/-- Codes that are the same. -/
theorem codes_eq (a a2 : Option Addr) (c c2 : Nat) (l : List Cd) (w : World) (hl : l.length ≤ 65536) (h1 : RdC w a l) (h2 : RdC w a2 l) :
    Calls Try.prog 10 #[.slice a l.length c, .slice a2 l.length c2] w fun e w' => e = .returned (.bool true) ∧ Keep w w' := by
  go_enter Try.func10, Try.ntmps10
  go_wp2_with fail
  go_loopw [5] (fun i wr => ∃ k : Nat, k ≤ l.length ∧ i = .int .i64 k ∧ Keep w wr) (fun i _ => l.length - (intOf i).toNat)
  case atStart => exact ⟨0, by omega, rfl, Keep.refl _⟩
  case round =>
    obtain ⟨k, hk, rfl, kw⟩ := hrel
    by_cases hkl : k < l.length
    · have hkc : (k : Int) < (l.length : Int) := by omega
      obtain ⟨b, o, rfl, m0, m1, m2⟩ := (h1.keep kw) k hkl
      obtain ⟨b2, o2, rfl, n0, n1, n2⟩ := (h2.keep kw) k hkl
      obtain ⟨p, q, lo, hc⟩ : ∃ p q lo, l.getD k c0 = (p, q, lo) := ⟨_, _, _, rfl⟩
      rw [hc] at m0 m1 m2 n0 n1 n2
      clear hc
      go_wp2_with fail
      go_big_quiet (fail)
      go_wp2_with fail
      go_roundw
      case rel => exact ⟨k + 1, by omega, by go_num, kw.drewN _⟩
      case measure => simp [intOf]; omega
    · have hkc : ¬ (k : Int) < (l.length : Int) := by omega
      go_wp2_with fail
      go_ret
      exact ⟨rfl, kw⟩
end Go.Proofs.Ytjbiknnichfajaa
