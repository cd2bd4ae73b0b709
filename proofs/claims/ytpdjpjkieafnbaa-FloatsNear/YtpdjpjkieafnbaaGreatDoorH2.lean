import Derived.Test.YtpdjpjkieafnbaaGreatDoorH1
set_option linter.unusedVariables false
set_option linter.unusedSimpArgs false
namespace Go.Proofs.YtpdjpjkieafnbaaGreatDoor.Li
open Go.RowKit Lb Nr
theorem Lv.shape {w : World} {v : Value} {n K : Nat} (h : Lv w v n K) : ∃ a l c, v = .slice a l c := by
  obtain ⟨a, c, l, e, _⟩ := h
  exact ⟨a, _, c, e⟩
set_option maxRecDepth 100000 in
set_option maxHeartbeats 2000000 in
/-- A number by the scale. -/
theorem of_any (v1 v2 : Value) (N D K n : Nat) (w : World) (h1 : Lv w v1 N K) (h2 : Lv w v2 D K) (hK : K ≤ 35184372000000) (hD : 0 < D) (hn : n < 18446744073709551616) (hq : n * N / D < 18446744073709551616) (K2 : Nat) (hK2 : K ≤ K2) (hK2' : 2 ≤ K) (hK3 : K2 ≤ 35184372000000) (hm : n * N < 4294967296 ^ K2) :
    Calls Tryz.prog 144 #[.agg #[v1, v2], .int .u64 (n : Nat)] w fun e w' => e = .returned (.tuple #[.int .u64 ((n * N / D : Nat) : Int), .bool (decide (n * N % D = 0))]) ∧ Keep w w' := by
  have hF := fun wx => From_lv n wx hn
  have hM := fun u wx (hu : Lv wx u n 2) (hk : Keep w wx) => Mul_lv u v1 n N K K2 wx (hu.more hK2') (h1.keep hk) (by omega) hm
  have hDM := fun u wx (hu : Lv wx u (n * N) K2) (hk : Keep w wx) => DivMod_lv u v2 (n * N) D K2 wx hu ((h2.keep hk).more hK2) (by omega) hD
  have hSm := fun u wx (hu : Lv wx u (n * N / D) K2) => Small_lv u (n * N / D) K2 wx hu (by omega) hq
  have hLn := fun u wx (hu : Lv wx u (n * N % D) K2) => Len_lv u (n * N % D) K2 wx hu (by omega)
  obtain ⟨a1, l1, c1, rfl⟩ := h1.shape
  obtain ⟨a2, l2, c2, rfl⟩ := h2.shape
  have hz : ((sz (n * N % D) : Int) == 0) = decide (n * N % D = 0) := by
    by_cases c : n * N % D = 0
    · rw [c]; rfl
    · rw [decide_eq_false c, beq_eq_false_iff_ne]
      have := (sz_ge (Nat.pos_of_ne_zero c)).2
      omega
  generalize n * N / D = Q at *
  generalize n * N % D = R at *
  generalize n * N = X at *
  obtain ⟨w1, hw1⟩ : ∃ w1, w.alloc (.cells #[.slice a1 l1 c1, .slice a2 l2 c2] 173) = w1 := ⟨_, rfl⟩
  have k1 : Keep w w1 := by rw [← hw1]; exact (Keep.refl w).alloc _
  have hbx : w1.heap[w.heap.size]? = some (.cells #[.slice a1 l1 c1, .slice a2 l2 c2] 173 (0, 0)) := by rw [← hw1]; exact heap_alloc_new w _
  have HB : Hid (∀ wx, Keep w1 wx → wx.cell? ⟨w.heap.size, 0, none⟩ = some (.slice a1 l1 c1) ∧ wx.cell? ⟨w.heap.size, 1, none⟩ = some (.slice a2 l2 c2)) := by
    intro wx kx
    have e : wx.heap[w.heap.size]? = some (.cells #[.slice a1 l1 c1, .slice a2 l2 c2] 173 (0, 0)) := by
      rw [kx.block _ (Array.getElem?_eq_some_iff.1 hbx).1]; exact hbx
    refine ⟨?_, ?_⟩ <;> rw [cell_of_row wx _ _ _ 173 (0, 0) e] <;> rfl
  obtain ⟨d0, d1⟩ := HB.out _ (Keep.refl _)
  have HK1 : Hid (Keep w w1) := k1
  clear k1 hbx h1 h2
  go_enter Tryz.func144, Tryz.ntmps144
  go_upto_region 1 with fail
  go_region_held3 (fun wx => wx.cell? ⟨w.heap.size, 0, none⟩ = some (.slice a1 l1 c1) ∧ wx.cell? ⟨w.heap.size, 1, none⟩ = some (.slice a2 l2 c2)) (go_keep) (first
    | (go_at_call 69; refine (hF _).mono ?_; rintro e w3 ⟨u, rfl, hu, k3⟩; have K3 : Hid (Keep w1 w3) := (Keep.refl w1).drew.trans k3; have HU : Hid (Lv w3 u n 2) := hu; clear hu k3; obtain ⟨d0, d1⟩ := HB.out _ K3.out)
    | (go_at_call 108; refine (hM u _ HU.out (HK1.out.trans K3.out)).mono ?_; rintro e w4 ⟨x, rfl, hx, k4⟩; have K4 : Hid (Keep w1 w4) := K3.out.trans k4; have HX : Hid (Lv w4 x X K2) := hx; clear hx k4; obtain ⟨d0, d1⟩ := HB.out _ K4.out)
    | (go_at_call 113; refine (hDM x _ HX.out (HK1.out.trans K4.out)).mono ?_; rintro e w5 ⟨vq, vr, rfl, hvq, hvr, k5⟩; have K5 : Hid (Keep w1 w5) := K4.out.trans k5; have HQ : Hid (Lv w5 vq Q K2) := hvq; have HR : Hid (Lv w5 vr R K2) := hvr; clear hvq hvr k5; obtain ⟨d0, d1⟩ := HB.out _ K5.out))
  go_simp
  go_wp2_with fail
  refine (hSm vq _ HQ.out).mono ?_
  rintro e wz ⟨b, rfl, hwz⟩
  rw [hwz]
  clear hwz
  go_wp2_with fail
  refine (hLn vr _ HR.out).mono ?_
  rintro e wz ⟨rfl, hwz⟩
  rw [hwz]
  clear hwz
  go_wp2_with fail
  go_ret2
  exact ⟨rfl, HK1.out.trans K5.out⟩
end Go.Proofs.YtpdjpjkieafnbaaGreatDoor.Li
