import Derived.Test.YtjbiknnichfajaaS9
import Derived.Test.YtjbiknnichfajaaS3
set_option linter.unusedVariables false
set_option linter.unusedSimpArgs false
namespace Go.Proofs.Ytjbiknnichfajaa
open Go.RowKit Go.Shelf
attribute [local go_sem high] run_eqlC run_neqC run_guardC
/-- The codes of a vector. -/
def cdsF (V : List (List Nat)) (T : List (List Int)) (xs : List Nat) : List Cd := (List.range xs.length).map (fun i => cdF (kys (V.getD i [])) (kts (T.getD i [])) (xs.getD i 0))
theorem cds_len (V : List (List Nat)) (T : List (List Int)) (xs : List Nat) : (cdsF V T xs).length = xs.length := by simp [cdsF]
theorem cds_take (V : List (List Nat)) (T : List (List Int)) (xs : List Nat) (k : Nat) (h : k < xs.length) : (cdsF V T xs).take (k + 1) = (cdsF V T xs).take k ++ [cdF (kys (V.getD k [])) (kts (T.getD k [])) (xs.getD k 0)] := by
  rw [List.take_succ_eq_append_getElem (by rw [cds_len]; exact h)]
  simp [cdsF]
/-- What is made so far, and noughts behind. -/
def soF (V : List (List Nat)) (T : List (List Int)) (xs : List Nat) (k : Nat) : List Cd := (cdsF V T xs).take k ++ List.replicate (xs.length - k) c0
theorem so_zero (V : List (List Nat)) (T : List (List Int)) (xs : List Nat) : soF V T xs 0 = List.replicate xs.length c0 := by simp [soF]
theorem so_len (V : List (List Nat)) (T : List (List Int)) (xs : List Nat) (k : Nat) (h : k ≤ xs.length) : (soF V T xs k).length = xs.length := by simp [soF, cds_len]; omega
theorem so_all (V : List (List Nat)) (T : List (List Int)) (xs : List Nat) : soF V T xs xs.length = cdsF V T xs := by
  unfold soF
  rw [show xs.length - xs.length = 0 by omega]
  have := List.take_length (l := cdsF V T xs)
  rw [cds_len] at this
  rw [this]; simp
theorem so_set (V : List (List Nat)) (T : List (List Int)) (xs : List Nat) (k : Nat) (h : k < xs.length) : (soF V T xs k).set k (cdF (kys (V.getD k [])) (kts (T.getD k [])) (xs.getD k 0)) = soF V T xs (k + 1) := by
  unfold soF
  rw [cds_take V T xs k h, List.set_append_right _ _ (by simp [cds_len]; omega)]
  rw [show k - ((cdsF V T xs).take k).length = 0 by simp [cds_len]; omega, show xs.length - k = (xs.length - (k + 1)) + 1 by omega, List.replicate_succ, List.set_cons_zero]
  simp
/-- What Codes answers. -/
def coE (V : List (List Nat)) (T : List (List Int)) (n : Nat) : Int := if rightB V T = true then (if n = V.length then 0 else 72) else 200
def coA (V : List (List Nat)) (T : List (List Int)) (xs : List Nat) : List Cd := if rightB V T = true ∧ xs.length = V.length then cdsF V T xs else []
theorem right_parts {V : List (List Nat)} {T : List (List Int)} (h : rightB V T = true) : V.length = T.length ∧ V.length ≤ 65536 ∧ ∀ i, i < V.length → ScR (V.getD i []) (T.getD i []) := by
  unfold rightB at h
  rw [Bool.and_eq_true, decide_eq_true_eq] at h
  exact ⟨h.1.1, h.1.2.2, fun i hi => rg_sc (all_at h.2 i hi)⟩
set_option maxRecDepth 100000 in
set_option maxHeartbeats 4000000 in
theorem Codes_any (a a2 ax : Option Addr) (c c2 cx : Nat) (V : List (List Nat)) (T : List (List Int)) (xs : List Nat) (w : World) (h : Bn w a a2 V T) (hrx : RdF w ax xs) (hwx : W64 xs) (hnx : xs.length ≤ 17592186044416) :
    Calls Try.prog 4 #[BV a V.length c a2 T.length c2, .slice ax xs.length cx] w fun e w' => ∃ a' c', e = .returned (.tuple #[.slice a' (coA V T xs).length c', .int .i64 (coE V T xs.length)]) ∧ (coA V T xs).length ≤ c' ∧ RdC w' a' (coA V T xs) ∧ Keep w w' := by
  obtain ⟨w1, hw1, k1, t1, s1⟩ := boxed w #[.slice a V.length c, .slice a2 T.length c2] 25
  obtain ⟨b0, b1, f0, f1⟩ := cells2 t1
  have hB := h.keep k1
  have hRt := Right_any a a2 c c2 V T w1 hB
  have hrx1 := hrx.keep k1
  clear h hrx
  obtain ⟨rb, hrb⟩ : ∃ rb, rightB V T = rb := ⟨_, rfl⟩
  rw [hrb] at hRt
  have hz : w.heap.size < w1.heap.size := by omega
  cases rb
  · have HE : Hid (coE V T xs.length = 200) := by show _ = _; unfold coE; rw [if_neg (by rw [hrb]; decide)]
    have HA : Hid (coA V T xs = []) := by show _ = _; unfold coA; rw [if_neg (by rw [hrb]; intro h; cases h.1)]
    rw [HE.out, HA.out]
    clear hrb
    go_enter Try.func4, Try.ntmps4
    go_wp2_with (first | rw [hw1] | (go_at_call 8; refine hRt.mono ?_; rintro e w3 ⟨rfl, k3⟩))
    go_ret2
    exact ⟨none, 0, rfl, Nat.le_refl _, fun j hj => by simp at hj, k1.trans k3⟩
  · obtain ⟨g1, g2, g3⟩ := right_parts hrb
    by_cases hn : xs.length = V.length
    · have HE : Hid (coE V T xs.length = 0) := by show _ = _; unfold coE; rw [if_pos hrb, if_pos hn]
      have HA : Hid (coA V T xs = cdsF V T xs) := by show _ = _; unfold coA; rw [if_pos ⟨hrb, hn⟩]
      rw [HE.out, HA.out]
      have e1 : ((xs.length : Int) != (V.length : Int)) = false := by simp; omega
      have hx65 : xs.length ≤ 65536 := by omega
      have G1 : Hid (V.length = T.length) := g1
      have GN : Hid (xs.length = V.length) := hn
      replace g3 : Hid _ := g3
      clear hrb g1 hn
      go_enter Try.func4, Try.ntmps4
      go_wp2_with (first
        | rw [hw1]
        | (go_at_call 8; refine hRt.mono ?_; rintro e w3 ⟨rfl, k3⟩; have x0 := k3.cell b0; have x1 := k3.cell b1; have hz3 : w.heap.size < w3.heap.size := Nat.lt_of_lt_of_le hz k3.le)
        | (at_make; refine wpList_makeC _ rfl _ _ rfl xs.length rfl rfl hx65 ?_; intro w4 r4 k4 s4))
      go_loopw [25] (fun i wr => ∃ k : Nat, k ≤ xs.length ∧ i = .int .i64 k ∧ Keep w3 wr ∧ RowC wr w3.heap.size (soF V T xs k)) (fun i _ => xs.length - (intOf i).toNat)
      case atStart => exact ⟨0, by omega, rfl, k4, by rw [so_zero]; exact r4⟩
      case round =>
        obtain ⟨k, hk, rfl, kw, hrow⟩ := hrel
        obtain ⟨wk, hwk⟩ : ∃ wk, wk = wr := ⟨_, rfl⟩
        subst hwk
        have kk := k3.trans kw
        have y0 := kk.cell b0
        have y1 := kk.cell b1
        have hzr : w.heap.size < wk.heap.size := Nat.lt_of_lt_of_le hz kk.le
        by_cases hkl : k < xs.length
        · have hkc : (k : Int) < (xs.length : Int) := by omega
          obtain ⟨bx, ox, rfl, cx1⟩ := (hrx1.keep kk) k hkl
          have hv := hwx k hkl
          have hkv : k < V.length := by have := GN.out; omega
          have hS := scaleOf_any a a2 c c2 V T k wk (hB.keep kk) hkv (by have := G1.out; omega)
          have hC := fun x cx y cy wz (hs : Sc wz x y (V.getD k []) (T.getD k [])) => code_any x y cx cy (V.getD k []) (T.getD k []) (xs.getD k 0) wz hs (g3.out k hkv) hv
          have HS : Hid (∀ wz, RowC wz w3.heap.size (soF V T xs k) → RowC (((wz.setCell ⟨w3.heap.size, k * 3, none⟩ (.int .i64 (cdF (kys (V.getD k [])) (kts (T.getD k [])) (xs.getD k 0)).1)).setCell ⟨w3.heap.size, k * 3 + 1, none⟩ (.int .i64 (cdF (kys (V.getD k [])) (kts (T.getD k [])) (xs.getD k 0)).2.1)).setCell ⟨w3.heap.size, k * 3 + 2, none⟩ (.bool (cdF (kys (V.getD k [])) (kts (T.getD k [])) (xs.getD k 0)).2.2)) w3.heap.size (soF V T xs (k + 1))) := fun wz hz => by rw [← so_set V T xs k hkl]; exact hz.set k _
          generalize V.getD k [] = l at *
          generalize T.getD k [] = t at *
          generalize xs.getD k 0 = v at *
          obtain ⟨p, q, lo, hcd⟩ : ∃ p q lo, cdF (kys l) (kts t) v = (p, q, lo) := ⟨_, _, _, rfl⟩
          rw [hcd] at hC HS
          have HRL : Hid (∀ wz, Keep wk wz → RowC wz w3.heap.size (soF V T xs k)) := fun wz kz => hrow.keep kz
          have hsl : k < (soF V T xs k).length := by rw [so_len V T xs k hk]; exact hkl
          clear hcd
          go_wp2_with (first
            | (go_at_call 13; refine hS.mono ?_; rintro e w5 ⟨x, cx, y, cy, rfl, hs, k5⟩)
            | (go_at_call 14; refine (hC x cx y cy _ (hs.keep k5)).mono ?_; rintro e w6 ⟨rfl, k6⟩; have r6 := HRL.out w6 (k5.trans k6); obtain ⟨m0, m1, m2, n0, n1, n2⟩ := r6.cell k hsl))
          go_roundw
          case rel => exact ⟨k + 1, by omega, by go_num, (((kw.trans (k5.trans k6)).setCell (p := ⟨w3.heap.size, k * 3, none⟩) (Nat.le_refl _) _).setCell (p := ⟨w3.heap.size, k * 3 + 1, none⟩) (Nat.le_refl _) _).setCell (p := ⟨w3.heap.size, k * 3 + 2, none⟩) (Nat.le_refl _) _, HS.out _ r6⟩
          case measure => simp [intOf]; omega
        · have hkc : ¬ (k : Int) < (xs.length : Int) := by omega
          obtain rfl : k = xs.length := by omega
          rw [so_all] at hrow
          have hcl := cds_len V T xs
          replace hcl : Hid _ := hcl
          go_wp2_with fail
          go_ret2
          exact ⟨some ⟨w3.heap.size, 0, none⟩, xs.length, by rw [hcl.out]; rfl, by rw [hcl.out]; exact Nat.le_refl _, hrow.rdc, k1.trans kk⟩
    · have HE : Hid (coE V T xs.length = 72) := by show _ = _; unfold coE; rw [if_pos hrb, if_neg hn]
      have HA : Hid (coA V T xs = []) := by show _ = _; unfold coA; rw [if_neg (fun h => hn h.2)]
      rw [HE.out, HA.out]
      have e1 : ((xs.length : Int) != (V.length : Int)) = true := by simp; omega
      clear hrb hn g1 g2 g3
      go_enter Try.func4, Try.ntmps4
      go_wp2_with (first | rw [hw1] | (go_at_call 8; refine hRt.mono ?_; rintro e w3 ⟨rfl, k3⟩; have x0 := k3.cell b0; have x1 := k3.cell b1))
      go_ret2
      exact ⟨none, 0, rfl, Nat.le_refl _, fun j hj => by simp at hj, k1.trans k3⟩
end Go.Proofs.Ytjbiknnichfajaa
