import Derived.Test.YtpdjpjkieafnbaaGreatDoorH1
set_option linter.unusedVariables false
set_option linter.unusedSimpArgs false
namespace Go.Proofs.YtpdjpjkieafnbaaGreatDoor.Li
open Go.RowKit Lb Nr
theorem Lv.shape {w : World} {v : Value} {n K : Nat} (h : Lv w v n K) : ∃ a l c, v = .slice a l c := by
  obtain ⟨a, c, l, e, _⟩ := h
  exact ⟨a, _, c, e⟩
set_option maxRecDepth 100000 in
set_option maxHeartbeats 2000000 in
/-- A number by the scale. -/
theorem of_any (v1 v2 : Value) (N D K n : Nat) (w : World) (h1 : Lv w v1 N K) (h2 : Lv w v2 D K) (hK : K ≤ 35184372000000) (hD : 0 < D) (hn : n < 18446744073709551616) (hq : n * N / D < 18446744073709551616) (K2 : Nat) (hK2 : K ≤ K2) (hK2' : 2 ≤ K) (hK3 : K2 ≤ 35184372000000) (hm : n * N < 4294967296 ^ K2) :
    Calls Tryz.prog 144 #[.agg #[v1, v2], .int .u64 (n : Nat)] w fun e w' => e = .returned (.tuple #[.int .u64 ((n * N / D : Nat) : Int), .bool (decide (n * N % D = 0))]) ∧ Keep w w' := by
  have hF := fun wx => From_lv n wx hn
  have hM := fun u wx (hu : Lv wx u n 2) (hk : Keep w wx) => Mul_lv u v1 n N K K2 wx (hu.more hK2') (h1.keep hk) (by omega) hm
  have hDM := fun u wx (hu : Lv wx u (n * N) K2) (hk : Keep w wx) => DivMod_lv u v2 (n * N) D K2 wx hu ((h2.keep hk).more hK2) (by omega) hD
  have hSm := fun u wx (hu : Lv wx u (n * N / D) K2) => Small_lv u (n * N / D) K2 wx hu (by omega) hq
  have hLn := fun u wx (hu : Lv wx u (n * N % D) K2) => Len_lv u (n * N % D) K2 wx hu (by omega)
  obtain ⟨a1, l1, c1, rfl⟩ := h1.shape
  obtain ⟨a2, l2, c2, rfl⟩ := h2.shape
  have hz : ((sz (n * N % D) : Int) == 0) = decide (n * N % D = 0) := by
    by_cases c : n * N % D = 0
    · rw [c]; rfl
    · rw [decide_eq_false c, beq_eq_false_iff_ne]
      have := (sz_ge (Nat.pos_of_ne_zero c)).2
      omega
  generalize n * N / D = Q at *
  generalize n * N % D = R at *
  generalize n * N = X at *
  obtain ⟨w1, hw1⟩ : ∃ w1, w.alloc (.cells #[.slice a1 l1 c1, .slice a2 l2 c2] 173) = w1 := ⟨_, rfl⟩
  have k1 : Keep w w1 := by rw [← hw1]; exact (Keep.refl w).alloc _
  have hbx : w1.heap[w.heap.size]? = some (.cells #[.slice a1 l1 c1, .slice a2 l2 c2] 173 (0, 0)) := by rw [← hw1]; exact heap_alloc_new w _
  have HB : Hid (∀ wx, Keep w1 wx → wx.cell? ⟨w.heap.size, 0, none⟩ = some (.slice a1 l1 c1) ∧ wx.cell? ⟨w.heap.size, 1, none⟩ = some (.slice a2 l2 c2)) := by
    intro wx kx
    have e : wx.heap[w.heap.size]? = some (.cells #[.slice a1 l1 c1, .slice a2 l2 c2] 173 (0, 0)) := by
      rw [kx.block _ (Array.getElem?_eq_some_iff.1 hbx).1]; exact hbx
    refine ⟨?_, ?_⟩ <;> rw [cell_of_row wx _ _ _ 173 (0, 0) e] <;> rfl
  obtain ⟨d0, d1⟩ := HB.out _ (Keep.refl _)
  have HK1 : Hid (Keep w w1) := k1
  clear k1 hbx h1 h2
  go_enter Tryz.func144, Tryz.ntmps144
  go_upto_region 1 with fail
  go_region_held3 (fun wx => wx.cell? ⟨w.heap.size, 0, none⟩ = some (.slice a1 l1 c1) ∧ wx.cell? ⟨w.heap.size, 1, none⟩ = some (.slice a2 l2 c2)) (go_keep) (first
    | (go_at_call 69; refine (hF _).mono ?_; rintro e w3 ⟨u, rfl, hu, k3⟩; have K3 : Hid (Keep w1 w3) := (Keep.refl w1).drew.trans k3; have HU : Hid (Lv w3 u n 2) := hu; clear hu k3; obtain ⟨d0, d1⟩ := HB.out _ K3.out)
    | (go_at_call 108; refine (hM u _ HU.out (HK1.out.trans K3.out)).mono ?_; rintro e w4 ⟨x, rfl, hx, k4⟩; have K4 : Hid (Keep w1 w4) := K3.out.trans k4; have HX : Hid (Lv w4 x X K2) := hx; clear hx k4; obtain ⟨d0, d1⟩ := HB.out _ K4.out)
    | (go_at_call 113; refine (hDM x _ HX.out (HK1.out.trans K4.out)).mono ?_; rintro e w5 ⟨vq, vr, rfl, hvq, hvr, k5⟩; have K5 : Hid (Keep w1 w5) := K4.out.trans k5; have HQ : Hid (Lv w5 vq Q K2) := hvq; have HR : Hid (Lv w5 vr R K2) := hvr; clear hvq hvr k5; obtain ⟨d0, d1⟩ := HB.out _ K5.out))
  go_simp
  go_wp2_with fail
  refine (hSm vq _ HQ.out).mono ?_
  rintro e wz ⟨b, rfl, hwz⟩
  rw [hwz]
  clear hwz
  go_wp2_with fail
  refine (hLn vr _ HR.out).mono ?_
  rintro e wz ⟨rfl, hwz⟩
  rw [hwz]
  clear hwz
  go_wp2_with fail
  go_ret2
  exact ⟨rfl, HK1.out.trans K5.out⟩
end Go.Proofs.YtpdjpjkieafnbaaGreatDoor.Li
set_option linter.unusedVariables false
set_option linter.unusedSimpArgs false
namespace Go.Proofs.YtpdjpjkieafnbaaGreatDoor.Li
open Go.RowKit Lb Nr
/-- A scale's variable. -/
def Sc (w : World) (g : Nat) (x y : Value) : Prop := w.heap[g]? = some (.cells #[x, y] 173 (0, 0))
theorem Sc.keep {w w' : World} {g : Nat} {x y : Value} (h : Sc w g x y) (k : Keep w w') : Sc w' g x y := by
  unfold Sc; rw [k.block g (Array.getElem?_eq_some_iff.1 h).1]; exact h
theorem Sc.new (w : World) (x y : Value) : Sc (w.alloc (.cells #[x, y] 173)) w.heap.size x y := heap_alloc_new w _
theorem Sc.cells {w : World} {g : Nat} {x y : Value} (h : Sc w g x y) : w.cell? ⟨g, 0, none⟩ = some x ∧ w.cell? ⟨g, 1, none⟩ = some y ∧ w.frozen? ⟨g, 0, none⟩ = false ∧ w.frozen? ⟨g, 1, none⟩ = false := by
  refine ⟨?_, ?_, frozen_of_row w g 0 _ 173 h, frozen_of_row w g 1 _ 173 h⟩ <;> rw [cell_of_row w g _ _ 173 (0, 0) h] <;> rfl
theorem Sc.set {w : World} {g : Nat} {x y : Value} (h : Sc w g x y) (x' y' : Value) : Sc ((w.setCell ⟨g, 0, none⟩ x').setCell ⟨g, 1, none⟩ y') g x' y' := by
  have h0 := heap_setCell_same w g 0 _ 173 x' h
  have h1 := heap_setCell_same _ g 1 _ 173 y' h0
  unfold Sc
  rw [h1]
  simp
theorem Sc.rd {w : World} {g : Nat} {x y : Value} {a : Option Addr} {l : List Nat} (h : Sc w g x y) (hx : ∀ z, x ≠ .int .u32 z) (hy : ∀ z, y ≠ .int .u32 z) (r : Rd w a l) (p q : Value) : Rd ((w.setCell ⟨g, 0, none⟩ p).setCell ⟨g, 1, none⟩ q) a l := by
  intro j hj
  obtain ⟨b, o, e, hc⟩ := r j hj
  refine ⟨b, o, e, ?_⟩
  have hne : g ≠ b := by
    intro c
    subst c
    rw [cell_of_row w g _ _ 173 (0, 0) h] at hc
    match ho : o + j with
    | 0 => rw [ho] at hc; simp at hc; exact hx _ hc
    | 1 => rw [ho] at hc; simp at hc; exact hy _ hc
    | k + 2 => rw [ho] at hc; simp at hc
  rw [World.cell?_setCell_far _ _ _ _ hne, World.cell?_setCell_far _ _ _ _ hne]
  exact hc
theorem Sc.lv {w : World} {g : Nat} {x y v : Value} {n K : Nat} (h : Sc w g x y) (hx : ∀ z, x ≠ .int .u32 z) (hy : ∀ z, y ≠ .int .u32 z) (r : Lv w v n K) (p q : Value) : Lv ((w.setCell ⟨g, 0, none⟩ p).setCell ⟨g, 1, none⟩ q) v n K := by
  obtain ⟨a, c, l, e, h1, h2, h3, h4⟩ := r
  exact ⟨a, c, l, e, h1, h2, h.rd hx hy h3 p q, h4⟩
theorem results_sc {fn : Func} {t : Tmp} (h : fn.results = #[.cell t 173]) (tmps : Array Value) (w : World) (g : Nat) (x y : Value) (hp : tmps.getD t undef = .pointer (some ⟨g, 0, none⟩)) (hh : Sc w g x y) :
    (results fn tmps).run Tryz.prog w = .ok (.agg #[x, y]) w := by
  obtain ⟨c0, c1, -, -⟩ := hh.cells
  have hp' : (tmps[t]?).getD undef = .pointer (some ⟨g, 0, none⟩) := by simpa using hp
  simp [results, h, hp, hp', go_sem, c0, c1]
set_option maxRecDepth 100000 in
set_option maxHeartbeats 2000000 in
theorem newScale_pos (e : Int) (t : Nat) (w : World) (he : -1900 ≤ e ∧ e ≤ 1900) (ht : t ≤ 16000) :
    Calls Tryz.prog 142 #[.int .i64 e, .int .i64 (t : Int)] w fun en w' => ∃ u1 u2, en = .returned (.agg #[u1, u2]) ∧ Lv w' u1 (10 ^ t * 2 ^ (e - 2).toNat) 2101 ∧ Lv w' u2 (1 * 2 ^ (-(e - 2)).toNat) 2101 ∧ Keep w w' := by
  have hF1 := fun wx => From_lv 1 wx (by omega)
  have hF10 := fun wx => From_lv 10 wx (by omega)
  have hP := fun v wx (h : Lv wx v 10 2) => Pow10_lv v t wx h ht
  have hS := fun v1 v2 wx h1 h2 => scaled_lv v1 v2 (10 ^ t) 1 2001 (e - 2) wx h1 h2 (by omega) (by omega)
  have d0 : decide ((t : Int) < 0) = false := decide_eq_false (by omega)
  have we : IntKind.i64.wrap (e - 2) = e - 2 := by rw [IntWalk.i64_left]; exact IntWalk.wrap64_in _ (by omega)
  have e1 := he.1
  have e2 := he.2
  clear he
  generalize 10 ^ t = N at *
  generalize hA : N * 2 ^ (e - 2).toNat = A at *
  generalize hB : 1 * 2 ^ (-(e - 2)).toNat = B at *
  clear hA hB
  obtain ⟨w0, hw0⟩ : ∃ w0, w.alloc (.cells #[.slice none 0 0, .slice none 0 0] 173) = w0 := ⟨_, rfl⟩
  have S0 : Hid (Sc w0 w.heap.size (.slice none 0 0) (.slice none 0 0)) := by unfold Hid; rw [← hw0]; exact Sc.new w _ _
  have K0 : Hid (Keep w w0) := by unfold Hid; rw [← hw0]; exact (Keep.refl w).alloc _
  have t1 : True := trivial
  go_enter Tryz.func142, Tryz.ntmps142
  go_wp2_with fail
  refine (hF1 _).mono ?_
  rintro en w1 ⟨va, rfl, hva, k1⟩
  go_wp2_with fail
  refine (hF1 _).mono ?_
  rintro en w2 ⟨vb, rfl, hvb, k2⟩
  go_wp2_with fail
  refine (hF10 _).mono ?_
  rintro en w3 ⟨vc, rfl, hvc, k3⟩
  go_wp2_with fail
  refine (hP vc _ hvc).mono ?_
  rintro en w4 ⟨vd, rfl, hvd, k4⟩
  go_wp2_with fail
  refine (hS vd vb _ hvd (((hvb.keep k3).keep k4).more (by omega))).mono ?_
  rintro en w5 ⟨u1, u2, rfl, hu1, hu2, k5⟩
  obtain ⟨a1, l1, c1, rfl⟩ := hu1.shape
  obtain ⟨a2, l2, c2, rfl⟩ := hu2.shape
  have KK : Keep w0 w5 := (((k1.trans k2).trans k3).trans k4).trans k5
  have S5 := S0.out.keep KK
  obtain ⟨c0, c1', f0, f1⟩ := S5.cells
  have HS5 : Hid (Sc w5 w.heap.size (.slice none 0 0) (.slice none 0 0)) := S5
  have HU1 : Hid (Lv w5 (.slice a1 l1 c1) A 2101) := hu1
  have HU2 : Hid (Lv w5 (.slice a2 l2 c2) B 2101) := hu2
  have HK : Hid (Keep w w5) := K0.out.trans KK
  clear S5 hu1 hu2 KK k1 k2 k3 k4 k5
  go_wp2_with fail
  refine bodyPost_ret (results_sc rfl _ _ w.heap.size _ _ rfl (HS5.out.set _ _)) rfl ?_
  exact ⟨_, _, rfl, HS5.out.lv (by simp) (by simp) HU1.out _ _, HS5.out.lv (by simp) (by simp) HU2.out _ _, (HK.out.setCell (p := ⟨w.heap.size, 0, none⟩) (Nat.le_refl _) _).setCell (p := ⟨w.heap.size, 1, none⟩) (Nat.le_refl _) _⟩
end Go.Proofs.YtpdjpjkieafnbaaGreatDoor.Li
