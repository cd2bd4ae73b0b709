import Derived.Test.YtpdjpjkieafnbaaGreatDoorR12
import Derived.Test.YtpdjpjkieafnbaaGreatDoorNX2
import Derived.Test.YtpdjpjkieafnbaaGreatDoorR14
import Derived.Test.YtpdjpjkieafnbaaGreatDoorT1
set_option linter.unusedVariables false
set_option linter.unusedSimpArgs false
namespace Go.Proofs.YtpdjpjkieafnbaaGreatDoor.Li.Nw
open Go.RowKit Lb Nr
/-- The format's variable. -/
def Fm (w : World) (g : Nat) : Prop := w.heap[g]? = some (.cells #[.int .i64 23, .int .i64 255, .int .i64 (-149)] 85 (0, 0))
theorem Fm.keep {w w' : World} {g : Nat} (h : Fm w g) (k : Keep w w') : Fm w' g := by
  unfold Fm; rw [k.block g (Array.getElem?_eq_some_iff.1 h).1]; exact h
theorem Fm.new (w : World) : Fm (w.alloc (.cells #[.int .i64 23, .int .i64 255, .int .i64 (-149)] 85)) w.heap.size := heap_alloc_new w _
theorem Fm.cells {w : World} {g : Nat} (h : Fm w g) : w.cell? ⟨g, 0, none⟩ = some (.int .i64 23) ∧ w.cell? ⟨g, 1, none⟩ = some (.int .i64 255) ∧ w.cell? ⟨g, 2, none⟩ = some (.int .i64 (-149)) := by
  refine ⟨?_, ?_, ?_⟩ <;> rw [cell_of_row w g _ _ 85 (0, 0) h] <;> rfl
set_option maxRecDepth 100000 in
set_option maxHeartbeats 2000000 in
/-- The bits of a decimal. -/
theorem amount_dec (ng pn : Bool) (wh pt ds : List UInt8) (hd : allD (wh ++ pt)) (hds : allD ds) (hl : (wh ++ pt).length ≤ 4096) (hl2 : ds.length ≤ 4096) (w : World) :
    Calls Tryz.prog 90 #[.agg #[.int .i64 23, .int .i64 255, .int .i64 (-149)], .agg #[.bool ng, .bool false, .string ⟨wh.toArray⟩, .string ⟨pt.toArray⟩, .bool pn, .string ⟨ds.toArray⟩]] w fun e w' =>
      ∃ x : Nat, e = .returned (.int .u64 (x : Nat)) ∧ NB (nat (wh ++ pt) * 10 ^ (pwN pn ds - (pt.length : Int)).toNat) (10 ^ (-(pwN pn ds - (pt.length : Int))).toNat) x ∧ Keep w w' := by
  have hP := fun wx => powerNumber_any ng false pn wh pt ds hds hl2 wx
  have hpin := pwN_in pn ds
  obtain ⟨q, g1, g2, g3, g4, g5, g6⟩ := dec_parts hd
  have hwl : wh.length ≤ 4096 := by rw [List.length_append] at hl; omega
  have hptl : pt.length ≤ 4096 := by rw [List.length_append] at hl; omega
  have htl : (tl0 (wh ++ pt)).length ≤ 4096 := Nat.le_trans (tl0_len _) hl
  have hTL := fun wx => trl_any (wh ++ pt) wx
  have hTR := fun wx => trr_any (tl0 (wh ++ pt)) wx (by omega)
  have hcat := catB wh pt
  have hcs : (ByteArray.mk wh.toArray ++ ByteArray.mk pt.toArray).size ≤ 4096 := by rw [hcat, sz_mk]; exact hl
  have hNat := fun wx (h0 : tr0 (tl0 (wh ++ pt)) ≠ []) => natural_dec ng pn wh pt ds (tr0 (tl0 (wh ++ pt))) wx g5 h0 (by omega)
  have hBP := fun (n : Nat) wx (hn : n ≤ 16000) => basePower_dec ng pn wh pt ds n wx hn
  obtain ⟨S, hS⟩ : ∃ S, nat (tr0 (tl0 (wh ++ pt))) = S := ⟨_, rfl⟩
  obtain ⟨N, hN⟩ : ∃ N, nat (wh ++ pt) = N := ⟨_, rfl⟩
  obtain ⟨D, hD⟩ : ∃ D, wh ++ pt = D := ⟨_, rfl⟩
  obtain ⟨G, hG⟩ : ∃ G, tl0 D = G := ⟨_, rfl⟩
  obtain ⟨H, hH⟩ : ∃ H, tr0 G = H := ⟨_, rfl⟩
  rw [hN] at g2 g3 ⊢
  rw [hD] at g1 g2 g3 g4 g5 g6 htl hTL hTR hcat hNat hS
  rw [hG] at g1 g2 g3 g4 g5 g6 htl hTL hTR hNat hS
  rw [hH] at g1 g2 g3 g4 g5 g6 hTR hNat hS
  rw [hS] at g2 g4 g6 hNat
  obtain ⟨L, hL⟩ : ∃ L, H.length = L := ⟨_, rfl⟩
  obtain ⟨gl, hgl⟩ : ∃ gl, G.length = gl := ⟨_, rfl⟩
  obtain ⟨pl, hpl⟩ : ∃ pl, pt.length = pl := ⟨_, rfl⟩
  obtain ⟨V, hV⟩ : ∃ V, pwN pn ds = V := ⟨_, rfl⟩
  have z1 : (ByteArray.mk H.toArray).size = L := by rw [sz_mk]; exact hL
  have z2 : (ByteArray.mk G.toArray).size = gl := by rw [sz_mk]; exact hgl
  have z3 : (ByteArray.mk pt.toArray).size = pl := by rw [sz_mk]; exact hpl
  rw [hV] at hP hpin ⊢
  rw [hL, hgl] at g1
  rw [hL] at g4 g6
  rw [hgl] at htl
  rw [hpl] at hptl ⊢
  clear hN hD hG hH hS hL hgl hpl hV hd hl g5 hds
  have b1 := hpin.1
  have b2 := hpin.2
  clear hpin
  have HG2 : Hid (N = S * 10 ^ q) := g2
  have HG3 : Hid (H = [] → N = 0) := g3
  have HG4 : Hid (H ≠ [] → 0 < S ∧ 10 ^ (L - 1) ≤ S) := g4
  have HG6 : Hid (S < 10 ^ L) := g6
  have HG1 : Hid (gl = L + q) := g1
  have hL4 : L ≤ gl := by omega
  clear g1 g2 g3 g4 g6
  go_enter Tryz.func90, Tryz.ntmps90
  go_upto_region 5 with (go_at_call 136; refine (hTL _).mono ?_; rintro e wz ⟨rfl, hz⟩; rw [hz]; clear hz)
  go_region_held3 (fun w' => w'.cell? ⟨w.heap.size + 1, 0, none⟩ = some (.bool ng) ∧ w'.cell? ⟨w.heap.size + 1, 1, none⟩ = some (.bool false) ∧ w'.cell? ⟨w.heap.size + 1, 2, none⟩ = some (.string ⟨wh.toArray⟩) ∧ w'.cell? ⟨w.heap.size + 1, 3, none⟩ = some (.string ⟨pt.toArray⟩) ∧ w'.cell? ⟨w.heap.size + 1, 4, none⟩ = some (.bool pn) ∧ w'.cell? ⟨w.heap.size + 1, 5, none⟩ = some (.string ⟨ds.toArray⟩)) (go_keep) (first | (go_at_call 137; refine (hP _).mono ?_; rintro e w2 ⟨rfl, o, p, rfl⟩))
  go_simp
  go_upto_region 9 with (go_at_call 110; refine (hTR _).mono ?_; rintro e wz ⟨rfl, hz⟩; rw [hz]; clear hz)
  have KA : Keep w (((((w.alloc (.cells #[.int .i64 23, .int .i64 255, .int .i64 (-149)] 85)).alloc (.cells #[.bool ng, .bool false, .string ⟨wh.toArray⟩, .string ⟨pt.toArray⟩, .bool pn, .string ⟨ds.toArray⟩] 129)).alloc o).alloc (.stringIter ⟨ds.toArray⟩ p)).drew) := (((((Keep.refl w).alloc _).alloc _).alloc o).alloc _).drew
  have FA : ∀ wx, Keep (((((w.alloc (.cells #[.int .i64 23, .int .i64 255, .int .i64 (-149)] 85)).alloc (.cells #[.bool ng, .bool false, .string ⟨wh.toArray⟩, .string ⟨pt.toArray⟩, .bool pn, .string ⟨ds.toArray⟩] 129)).alloc o).alloc (.stringIter ⟨ds.toArray⟩ p)).drew) wx → Fm wx w.heap.size ∧ Sp wx (w.heap.size + 1) #[.bool ng, .bool false, .string ⟨wh.toArray⟩, .string ⟨pt.toArray⟩, .bool pn, .string ⟨ds.toArray⟩] := by
    intro wx kx
    refine ⟨(Fm.new w).keep (((((Keep.refl _).alloc _).alloc o).alloc _).drew.trans kx), ?_⟩
    have := Sp.new (w.alloc (.cells #[.int .i64 23, .int .i64 255, .int .i64 (-149)] 85)) #[.bool ng, .bool false, .string ⟨wh.toArray⟩, .string ⟨pt.toArray⟩, .bool pn, .string ⟨ds.toArray⟩]
    rw [show (w.alloc (.cells #[.int .i64 23, .int .i64 255, .int .i64 (-149)] 85)).heap.size = w.heap.size + 1 by simp] at this
    exact this.keep ((((Keep.refl _).alloc o).alloc _).drew.trans kx)
  generalize ((((w.alloc (.cells #[.int .i64 23, .int .i64 255, .int .i64 (-149)] 85)).alloc (.cells #[.bool ng, .bool false, .string ⟨wh.toArray⟩, .string ⟨pt.toArray⟩, .bool pn, .string ⟨ds.toArray⟩] 129)).alloc o).alloc (.stringIter ⟨ds.toArray⟩ p)).drew = wA at KA FA ⊢
  have HKA : Hid (Keep w wA) := KA
  have HFA : Hid (∀ wx, Keep wA wx → Fm wx w.heap.size ∧ Sp wx (w.heap.size + 1) #[.bool ng, .bool false, .string ⟨wh.toArray⟩, .string ⟨pt.toArray⟩, .bool pn, .string ⟨ds.toArray⟩]) := FA
  clear KA FA hTL hTR hP
  obtain ⟨P, hP1⟩ : ∃ P : Int, V - (pl : Int) + ((gl : Int) - (L : Int)) = P := ⟨_, rfl⟩
  rw [hP1]
  have HP1 : Hid (P = V - (pl : Int) + (q : Int)) := by
    unfold Hid
    have := HG1.out
    omega
  have bP : -1100000 ≤ P ∧ P ≤ 1100000 := by omega
  have bP1 := bP.1
  have bP2 := bP.2
  clear bP hP1
  have fin : ∀ x, NB (S * 10 ^ P.toNat) (10 ^ (-P).toNat) x → NB (N * 10 ^ (V - (pl : Int)).toNat) (10 ^ (-(V - (pl : Int))).toNat) x := by
    intro x h
    rw [HG2.out]
    exact NB.moved HP1.out h
  by_cases c0 : H = []
  · have e0 : H.isEmpty = true := by rw [c0]; rfl
    have hz : NB (N * 10 ^ (V - (pl : Int)).toNat) (10 ^ (-(V - (pl : Int))).toNat) 0 := by
      rw [HG3.out c0, Nat.zero_mul]
      exact ⟨fun _ => rfl, fun h => absurd h (by omega)⟩
    have HZ : Hid (NB (N * 10 ^ (V - (pl : Int)).toNat) (10 ^ (-(V - (pl : Int))).toNat) 0) := hz
    clear c0 hz fin
    go_wp2_with fail
    go_ret
    exact ⟨0, rfl, HZ.out, HKA.out⟩
  have e0 : H.isEmpty = false := by simpa using c0
  obtain ⟨s0, s1⟩ := HG4.out c0
  have hL0 : Hid (0 < L) := by
    rw [← z1, sz_mk]
    exact List.length_pos_iff.2 c0
  have hNat' := fun wx => hNat wx c0
  have S0 : Hid (0 < S) := s0
  have S1 : Hid (10 ^ (L - 1) ≤ S) := s1
  have Fin : Hid (∀ x, NB (S * 10 ^ P.toNat) (10 ^ (-P).toNat) x → NB (N * 10 ^ (V - (pl : Int)).toNat) (10 ^ (-(V - (pl : Int))).toNat) x) := fin
  clear c0 s0 s1 hNat fin
  by_cases c1 : (L : Int) + P < -2000
  · have e1 : decide ((L : Int) + P < -2000) = true := decide_eq_true c1
    have HZ : Hid (NB (N * 10 ^ (V - (pl : Int)).toNat) (10 ^ (-(V - (pl : Int))).toNat) 0) := Fin.out 0 (dec_low 2000 (by omega) HG6.out (by omega))
    clear c1
    go_wp2_with fail
    go_ret
    exact ⟨0, rfl, HZ.out, HKA.out⟩
  have e1 : decide ((L : Int) + P < -2000) = false := decide_eq_false c1
  by_cases c2 : 2000 < (L : Int) + P
  · have e2 : decide (2000 < (L : Int) + P) = true := decide_eq_true c2
    have HZ : Hid (NB (N * 10 ^ (V - (pl : Int)).toNat) (10 ^ (-(V - (pl : Int))).toNat) 2139095040) := Fin.out _ (dec_high 2000 (by omega) S1.out hL0.out (by omega))
    obtain ⟨f0, f1, f2⟩ := (HFA.out _ (Keep.refl _)).1.cells
    have hI := fun wx => infinity_any wx
    unfold fmtV at hI
    clear c1 c2
    go_wp2_with fail
    refine (hI _).mono ?_
    rintro e w3 ⟨rfl, k3⟩
    go_wp2_with fail
    go_ret
    exact ⟨_, rfl, HZ.out, HKA.out.trans k3⟩
  have e2 : decide (2000 < (L : Int) + P) = false := decide_eq_false c2
  obtain ⟨hf, hsp⟩ := HFA.out _ (Keep.refl _)
  obtain ⟨f0, f1, f2⟩ := hf.cells
  obtain ⟨t0, t1, t2, t3, t4, t5⟩ := hsp.six
  clear hf hsp
  have hNr := fun v1 v2 A B wx h1 h2 h3 h4 => nearest_any v1 v2 A B 2001 wx h1 h2 (by omega) h3 h4
  unfold fmtV at hNr
  by_cases c3 : P < 0
  · have e3 : decide (P < 0) = true := decide_eq_true c3
    obtain ⟨n, hn⟩ : ∃ n : Nat, -P = (n : Int) := ⟨(-P).toNat, by omega⟩
    have hng : IntKind.i64.wrap (-P) = (n : Int) := by rw [IntWalk.i64_left, hn]; exact IntWalk.wrap64_in _ (by omega)
    have hng2 : wrap64 (-P) = (n : Int) := by rw [hn]; exact IntWalk.wrap64_in _ (by omega)
    have hBP' := fun wx => hBP n wx (by omega)
    have HM : Hid (P.toNat = 0 ∧ (-P).toNat = n) := by unfold Hid; omega
    clear c1 c2 c3 hn hBP
    go_upto_region 14 with fail
    go_region_held3 (fun w' => w'.cell? ⟨w.heap.size, 0, none⟩ = some (.int .i64 23) ∧ w'.cell? ⟨w.heap.size, 1, none⟩ = some (.int .i64 255) ∧ w'.cell? ⟨w.heap.size, 2, none⟩ = some (.int .i64 (-149)) ∧ w'.cell? ⟨w.heap.size + 1, 0, none⟩ = some (.bool ng) ∧ w'.cell? ⟨w.heap.size + 1, 1, none⟩ = some (.bool false) ∧ w'.cell? ⟨w.heap.size + 1, 2, none⟩ = some (.string ⟨wh.toArray⟩) ∧ w'.cell? ⟨w.heap.size + 1, 3, none⟩ = some (.string ⟨pt.toArray⟩) ∧ w'.cell? ⟨w.heap.size + 1, 4, none⟩ = some (.bool pn) ∧ w'.cell? ⟨w.heap.size + 1, 5, none⟩ = some (.string ⟨ds.toArray⟩)) (go_keep) (first
      | (go_at_call 138; refine (hNat' _).mono ?_; rintro e w3 ⟨v, rfl, hv, k3⟩; have K3 : Hid (Keep wA w3) := (Keep.refl wA).drew.trans k3; have HV : Hid (Lv w3 v S 2001) := hv; clear hv k3; obtain ⟨hf, hsp⟩ := HFA.out _ K3.out; obtain ⟨f0, f1, f2⟩ := hf.cells; obtain ⟨t0, t1, t2, t3, t4, t5⟩ := hsp.six; clear hf hsp)
      | (go_at_call 139; refine (hBP' _).mono ?_; rintro e w4 ⟨u, rfl, hu, k4⟩; have K4 : Hid (Keep wA w4) := K3.out.trans k4; have HV4 : Hid (Lv w4 v S 2001) := HV.out.keep k4; have HU : Hid (Lv w4 u (10 ^ n) 2001) := hu; clear hu k4; obtain ⟨hf, hsp⟩ := HFA.out _ K4.out; obtain ⟨f0, f1, f2⟩ := hf.cells; obtain ⟨t0, t1, t2, t3, t4, t5⟩ := hsp.six; clear hf hsp)
      | (go_at_call 71; refine (hNr v u S (10 ^ n) _ HV4.out HU.out S0.out (Nat.pow_pos (by omega))).mono ?_; rintro e w5 ⟨x, rfl, hx, k5⟩; have K5 : Hid (Keep wA w5) := K4.out.trans k5; have HX : Hid (∀ E, IsE S (10 ^ n) E → x = wb (Nr.rup (sA S E) (sB (10 ^ n) E)) E) := hx; clear hx k5; obtain ⟨hf, hsp⟩ := HFA.out _ K5.out; obtain ⟨f0, f1, f2⟩ := hf.cells; obtain ⟨t0, t1, t2, t3, t4, t5⟩ := hsp.six; clear hf hsp))
    go_simp
    go_wp2_with fail
    go_ret
    refine ⟨x, rfl, Fin.out x ?_, HKA.out.trans K5.out⟩
    rw [HM.out.1, HM.out.2, Nat.pow_zero, Nat.mul_one]
    have := S0.out
    exact ⟨fun h => by omega, fun _ => HX.out⟩
  · have e3 : decide (P < 0) = false := decide_eq_false c3
    obtain ⟨n, hn⟩ : ∃ n : Nat, P = (n : Int) := ⟨P.toNat, by omega⟩
    have hBP' : ∀ wx, Calls Tryz.prog 139 #[.agg #[.bool ng, .bool false, .string ⟨wh.toArray⟩, .string ⟨pt.toArray⟩, .bool pn, .string ⟨ds.toArray⟩], .int .i64 P] wx fun e w' => ∃ v, e = .returned v ∧ Lv w' v (10 ^ n) 2001 ∧ Keep wx w' := fun wx => by
      rw [hn]
      exact hBP n wx (by omega)
    obtain ⟨K2, hK2⟩ : ∃ K2, K2 = 4002 := ⟨_, rfl⟩
    have hb : S * 10 ^ n < 4294967296 ^ K2 := by
      obtain ⟨K, hK⟩ : ∃ K, K = 2001 := ⟨_, rfl⟩
      have h1 : 10 ^ L ≤ 16 ^ L := Nat.pow_le_pow_left (by omega) _
      have h2 : 10 ^ n ≤ 16 ^ n := Nat.pow_le_pow_left (by omega) _
      have h3 : S * 10 ^ n ≤ 16 ^ L * 16 ^ n := Nat.mul_le_mul (Nat.le_trans (Nat.le_of_lt HG6.out) h1) h2
      rw [← Nat.pow_add] at h3
      have h4 : (16 : Nat) ^ (L + n) = 2 ^ (4 * (L + n)) := by rw [Nat.pow_mul]
      have h5 := pow_small (4 * (L + n)) (K2 - 1) (by clear h1 h2 h3 h4; omega)
      have h6 : 4294967296 ^ (K2 - 1) < 4294967296 ^ K2 := Nat.pow_lt_pow_right (by omega) (by omega)
      rw [h4] at h3
      exact Nat.lt_of_le_of_lt (Nat.le_trans h3 h5) h6
    have hMu := fun v1 v2 wx h1 h2 => Mul_lv v1 v2 S (10 ^ n) 2001 K2 wx h1 h2 (by omega) hb
    have hFr := fun wx => From_lv 1 wx (by omega)
    have hNr2 := fun v1 v2 A B wx h1 h2 h3 h4 => nearest_any v1 v2 A B K2 wx h1 h2 (by omega) h3 h4
    unfold fmtV at hNr2
    have hK22 : Hid (2 ≤ K2) := by unfold Hid; omega
    have HM : Hid (P.toNat = n ∧ (-P).toNat = 0) := by unfold Hid; omega
    clear c1 c2 c3 hn hBP hNr hb hK2
    go_upto_region 15 with fail
    go_region_held3 (fun w' => w'.cell? ⟨w.heap.size, 0, none⟩ = some (.int .i64 23) ∧ w'.cell? ⟨w.heap.size, 1, none⟩ = some (.int .i64 255) ∧ w'.cell? ⟨w.heap.size, 2, none⟩ = some (.int .i64 (-149)) ∧ w'.cell? ⟨w.heap.size + 1, 0, none⟩ = some (.bool ng) ∧ w'.cell? ⟨w.heap.size + 1, 1, none⟩ = some (.bool false) ∧ w'.cell? ⟨w.heap.size + 1, 2, none⟩ = some (.string ⟨wh.toArray⟩) ∧ w'.cell? ⟨w.heap.size + 1, 3, none⟩ = some (.string ⟨pt.toArray⟩) ∧ w'.cell? ⟨w.heap.size + 1, 4, none⟩ = some (.bool pn) ∧ w'.cell? ⟨w.heap.size + 1, 5, none⟩ = some (.string ⟨ds.toArray⟩)) (go_keep) (first
      | (go_at_call 138; refine (hNat' _).mono ?_; rintro e w3 ⟨v, rfl, hv, k3⟩; have K3 : Hid (Keep wA w3) := (Keep.refl wA).drew.trans k3; have HV : Hid (Lv w3 v S 2001) := hv; clear hv k3; obtain ⟨hf, hsp⟩ := HFA.out _ K3.out; obtain ⟨f0, f1, f2⟩ := hf.cells; obtain ⟨t0, t1, t2, t3, t4, t5⟩ := hsp.six; clear hf hsp)
      | (go_at_call 139; refine (hBP' _).mono ?_; rintro e w4 ⟨u, rfl, hu, k4⟩; have K4 : Hid (Keep wA w4) := K3.out.trans k4; have HV4 : Hid (Lv w4 v S 2001) := HV.out.keep k4; have HU : Hid (Lv w4 u (10 ^ n) 2001) := hu; clear hu k4; obtain ⟨hf, hsp⟩ := HFA.out _ K4.out; obtain ⟨f0, f1, f2⟩ := hf.cells; obtain ⟨t0, t1, t2, t3, t4, t5⟩ := hsp.six; clear hf hsp)
      | (go_at_call 108; refine (hMu v u _ HV4.out HU.out).mono ?_; rintro e w5 ⟨z, rfl, hz, k5⟩; have K5 : Hid (Keep wA w5) := K4.out.trans k5; have HZ5 : Hid (Lv w5 z (S * 10 ^ n) K2) := hz; clear hz k5; obtain ⟨hf, hsp⟩ := HFA.out _ K5.out; obtain ⟨f0, f1, f2⟩ := hf.cells; obtain ⟨t0, t1, t2, t3, t4, t5⟩ := hsp.six; clear hf hsp)
      | (go_at_call 69; refine (hFr _).mono ?_; rintro e w6 ⟨y, rfl, hy, k6⟩; have K6 : Hid (Keep wA w6) := K5.out.trans k6; have HZ6 : Hid (Lv w6 z (S * 10 ^ n) K2) := HZ5.out.keep k6; have HY : Hid (Lv w6 y 1 K2) := hy.more hK22.out; clear hy k6; obtain ⟨hf, hsp⟩ := HFA.out _ K6.out; obtain ⟨f0, f1, f2⟩ := hf.cells; obtain ⟨t0, t1, t2, t3, t4, t5⟩ := hsp.six; clear hf hsp)
      | (go_at_call 71; refine (hNr2 z y (S * 10 ^ n) 1 _ HZ6.out HY.out (Nat.mul_pos S0.out (Nat.pow_pos (by omega))) (by omega)).mono ?_; rintro e w7 ⟨x, rfl, hx, k7⟩; have K7 : Hid (Keep wA w7) := K6.out.trans k7; have HX : Hid (∀ E, IsE (S * 10 ^ n) 1 E → x = wb (Nr.rup (sA (S * 10 ^ n) E) (sB 1 E)) E) := hx; clear hx k7; obtain ⟨hf, hsp⟩ := HFA.out _ K7.out; obtain ⟨f0, f1, f2⟩ := hf.cells; obtain ⟨t0, t1, t2, t3, t4, t5⟩ := hsp.six; clear hf hsp))
    go_simp
    go_wp2_with fail
    go_ret
    refine ⟨x, rfl, Fin.out x ?_, HKA.out.trans K7.out⟩
    rw [HM.out.1, HM.out.2, Nat.pow_zero]
    have := Nat.mul_pos S0.out (Nat.pow_pos (n := n) (show 0 < 10 by omega))
    exact ⟨fun h => by omega, fun _ => HX.out⟩
end Go.Proofs.YtpdjpjkieafnbaaGreatDoor.Li.Nw
set_option linter.unusedVariables false
set_option linter.unusedSimpArgs false
namespace Go.Proofs.YtpdjpjkieafnbaaGreatDoor.Li.Nw
open Go.RowKit Lb Nr
theorem signBit_any (w : World) : Calls Tryz.prog 72 #[.agg #[.int .i64 23, .int .i64 255, .int .i64 (-149)]] w fun e w' => e = .returned (.int .u64 2147483648) ∧ Keep w w' := by
  go_enter Tryz.func72, Tryz.ntmps72
  go_wp2_with fail
  go_ret
  exact ⟨rfl, (Keep.refl w).alloc _⟩
def sg (ng : Bool) : Nat := if ng then 2147483648 else 0
theorem or_sign (x : Nat) (h : x < 2147483648) : bits .or .u64 (x : Int) 2147483648 = ((x + 2147483648 : Nat) : Int) := by
  rw [show (2147483648 : Int) = ((2147483648 : Nat) : Int) from rfl, u64_or_nat x _ (by omega) (by omega), Nat.or_comm]
  have := Nat.two_pow_add_eq_or_of_lt (i := 31) (b := x) h 1
  rw [Nat.mul_one, show (2 : Nat) ^ 31 = 2147483648 from rfl] at this
  rw [← this]
  omega
set_option maxRecDepth 100000 in
set_option maxHeartbeats 2000000 in
theorem read_dec (s : List UInt8) (w : World) (hs : s.length ≤ 4096) (hok : cOk s = true) (hhx : cHx s = false) :
    Calls Tryz.prog 45 #[.agg #[.int .i64 23, .int .i64 255, .int .i64 (-149)], .string ⟨s.toArray⟩] w fun e w' =>
      ∃ x : Nat, e = .returned (.tuple #[.int .u64 ((x + sg (cNg s) : Nat) : Int), .int .i64 0, .int .i64 0]) ∧ NB (rdN s * 10 ^ (rdP s).toNat) (10 ^ (-(rdP s)).toNat) x ∧ Keep w w' := by
  have hC := fun wx => cut_any s wx hs
  obtain ⟨l1, l2⟩ := cl_all s
  have hA := fun wx => amount_dec (cNg s) (cNP s) (cWh s) (cPt s) (cDP s) ((cWh_d hhx).app (cPt_d hhx)) (cDP_d s) (by omega) (by omega) wx
  rw [hok, hhx] at hC
  obtain ⟨n1, n2, n3⟩ := not_word hok
  have hSg := fun wx => signBit_any wx
  have hsz : (ByteArray.mk s.toArray).size = s.length := sz_mk s
  have e0 : decide ((4096 : Int) < (s.length : Int)) = false := decide_eq_false (by omega)
  unfold rdN rdP
  generalize cWh s = wh at *
  generalize cPt s = pt at *
  generalize cNP s = np at *
  generalize cDP s = dp at *
  generalize cNg s = ng at *
  generalize cAt s = ca at *
  have m1 : (s == [110, 97, 110]) = false := by rw [beq_eq_false_iff_ne]; exact n1
  have m2 : (s == [105, 110, 102]) = false := by rw [beq_eq_false_iff_ne]; exact n2
  have m3 : (s == [45, 105, 110, 102]) = false := by rw [beq_eq_false_iff_ne]; exact n3
  clear n1 n2 n3 hok hhx l1 l2
  go_enter Tryz.func45, Tryz.ntmps45
  go_wp2_with fail
  refine (hC _).mono ?_
  rintro e w2 ⟨rfl, k2⟩
  have F2 := (Fm.new w).keep k2
  have K2 : Hid (Keep w w2) := ((Keep.refl w).alloc _).trans k2
  have hlt2 : w.heap.size < w2.heap.size := (Array.getElem?_eq_some_iff.1 F2).1
  obtain ⟨w3, hw3⟩ : ∃ w3, w2.alloc (.cells #[.bool ng, .bool false, .string ⟨wh.toArray⟩, .string ⟨pt.toArray⟩, .bool np, .string ⟨dp.toArray⟩] 129) = w3 := ⟨_, rfl⟩
  have k23 : Keep w2 w3 := by rw [← hw3]; exact (Keep.refl w2).alloc _
  have T3 : Sp w3 w2.heap.size #[.bool ng, .bool false, .string ⟨wh.toArray⟩, .string ⟨pt.toArray⟩, .bool np, .string ⟨dp.toArray⟩] := by rw [← hw3]; exact Sp.new w2 _
  have F3 := F2.keep k23
  obtain ⟨f0, f1, f2⟩ := F3.cells
  obtain ⟨t0, t1, t2, t3, t4, t5⟩ := T3.six
  have HF3 : Hid (Fm w3 w.heap.size) := F3
  have HT3 : Hid (Sp w3 w2.heap.size #[.bool ng, .bool false, .string ⟨wh.toArray⟩, .string ⟨pt.toArray⟩, .bool np, .string ⟨dp.toArray⟩]) := T3
  have K3 : Hid (Keep w w3) := K2.out.trans k23
  clear F2 F3 T3 k2 k23 hlt2 hC
  go_wp2_with fail
  refine (hA _).mono ?_
  rintro e w4 ⟨x, rfl, hx, k4⟩
  have hxl := hx.le (Nat.pow_pos (by omega))
  have HX : Hid (NB (nat (wh ++ pt) * 10 ^ (pwN np dp - (pt.length : Int)).toNat) (10 ^ (-(pwN np dp - (pt.length : Int))).toNat) x) := hx
  obtain ⟨g0, g1, g2⟩ := (HF3.out.keep k4).cells
  obtain ⟨u0, _⟩ := (HT3.out.keep k4).six
  have K4 : Hid (Keep w w4) := K3.out.trans k4
  have hor := or_sign x (by omega)
  clear hx k4 hA f0 f1 f2 t0 t1 t2 t3 t4 t5
  cases ng
  · go_wp2_with fail
    go_ret3
    exact ⟨x, rfl, HX.out, K4.out⟩
  · go_wp2_with fail
    refine (hSg _).mono ?_
    rintro e w5 ⟨rfl, k5⟩
    go_wp2_with fail
    go_ret3
    exact ⟨x, rfl, HX.out, K4.out.trans k5⟩
end Go.Proofs.YtpdjpjkieafnbaaGreatDoor.Li.Nw
set_option linter.unusedVariables false
set_option linter.unusedSimpArgs false
namespace Go.Proofs.YtpdjpjkieafnbaaGreatDoor.Li
open Go.RowKit Lb Nr
set_option maxRecDepth 100000 in
set_option maxHeartbeats 400000 in
/-- A text that is too long. -/
theorem read_long (x y z : Int) (s : List UInt8) (w : World) (hs : 4096 < s.length) :
    Calls Tryz.prog 45 #[.agg #[.int .i64 x, .int .i64 y, .int .i64 z], .string ⟨s.toArray⟩] w fun e w' =>
      e = .returned (.tuple #[.int .u64 0, .int .i64 4, .int .i64 0]) ∧ Keep w w' := by
  have hsz : (ByteArray.mk s.toArray).size = s.length := sz_mk s
  have e0 : decide ((4096 : Int) < (s.length : Int)) = true := decide_eq_true (by omega)
  go_enter Tryz.func45, Tryz.ntmps45
  go_wp2_with fail
  go_ret3
  exact ⟨rfl, (Keep.refl w).alloc _⟩
set_option maxRecDepth 100000 in
set_option maxHeartbeats 400000 in
theorem Read_long (s : List UInt8) (w : World) (hs : 4096 < s.length) :
    Calls Tryz.prog 12 #[.string ⟨s.toArray⟩] w fun e w' => e = .returned (.tuple #[.float .f64 0, .int .i64 4, .int .i64 0]) ∧ Keep w w' := by
  have hb := fun wx => binary64_any wx
  have hr := fun wx => read_long 52 2047 (-1074) s wx hs
  have hf : ∀ wx, (callFunc 19 #[.int .u64 0]).run Tryz.prog wx = .ok (.value (.float .f64 0)) wx := fun wx => f64from 0 wx
  clear hs
  go_enter Tryz.func12, Tryz.ntmps12
  go_wp2_with fail
  refine (hb _).mono ?_
  rintro e w1 ⟨rfl, k1⟩
  go_wp2_with fail
  refine (hr _).mono ?_
  rintro e w2 ⟨rfl, k2⟩
  go_wp2_with fail
  go_ret3
  exact ⟨rfl, k1.trans k2⟩
set_option maxRecDepth 100000 in
theorem binary32_any (w : World) : Calls Tryz.prog 56 #[] w fun e w' => e = .returned (.agg #[.int .i64 23, .int .i64 255, .int .i64 (-149)]) ∧ Keep w w' := by
  go_enter Tryz.func56, Tryz.ntmps56
  go_wp2_with fail
  refine bodyPost_ret (results_cell_row rfl _ _ w.heap.size 85 _ (0, 0) _ rfl (heap_alloc_new w _) Tryz.underlying85 rfl (by kernel_rfl)) rfl ?_
  exact ⟨rfl, (Keep.refl w).alloc _⟩
theorem f32from (x : Nat) (w : World) : (callFunc 28 #[.int .u32 (x : Nat)]).run Tryz.prog w = .ok (.value (.float .f32 x)) w := by
  rw [run_callFunc_extern Tryz.func28 (by kernel_rfl) (by kernel_rfl) (by kernel_rfl) (e := Extern.MathFloatBits.float32frombits) (by kernel_rfl)]
  rfl
namespace Nw
theorem sg_le (s : Bool) : sg s ≤ 2147483648 := by cases s <;> decide
set_option maxRecDepth 100000 in
set_option maxHeartbeats 400000 in
/-- Every right decimal is read as the number of binary32 nearest to what it says. -/
theorem Read_dec (s : List UInt8) (w : World) (hs : s.length ≤ 4096) (hok : cOk s = true) (hhx : cHx s = false) :
    Calls Tryz.prog 16 #[.string ⟨s.toArray⟩] w fun e w' =>
      ∃ x : Nat, e = .returned (.tuple #[.float .f32 (x + sg (cNg s)), .int .i64 0, .int .i64 0]) ∧ NB (rdN s * 10 ^ (rdP s).toNat) (10 ^ (-(rdP s)).toNat) x ∧ Keep w w' := by
  have hb := fun wx => binary32_any wx
  have hr := fun wx => read_dec s wx hs hok hhx
  have hf := fun (x : Nat) wx => f32from x wx
  have hsl := sg_le (cNg s)
  clear hok hhx
  generalize sg (cNg s) = ss at *
  go_enter Tryz.func16, Tryz.ntmps16
  go_wp2_with fail
  refine (hb _).mono ?_
  rintro e w1 ⟨rfl, k1⟩
  go_wp2_with fail
  refine (hr _).mono ?_
  rintro e w2 ⟨x, rfl, hx, k2⟩
  have hxl := hx.le (Nat.pow_pos (by omega))
  have HX : Hid (NB (rdN s * 10 ^ (rdP s).toNat) (10 ^ (-(rdP s)).toNat) x) := hx
  obtain ⟨y, hy⟩ : ∃ y, x + ss = y := ⟨_, rfl⟩
  have hf1 := fun wx => hf y wx
  rw [hy]
  have hy2 : y < 4294967296 := by omega
  have hw : IntKind.u32.wrap (y : Int) = (y : Int) := by rw [IntKind.wrap_u32]; omega
  have HY : Hid (x + ss = y) := hy
  clear hx hy hf hxl hsl
  go_wp2_with fail
  go_ret3
  exact ⟨x, by rw [HY.out]; rfl, HX.out, k1.trans k2⟩
/-- EVERY DECIMAL'S TEXT IS READ AS THE NUMBER OF BINARY32 NEAREST TO WHAT IT SAYS. -/
theorem Read_txt (ng : Bool) (A B P : List UInt8) (V : Int) (hA : allD A) (hA0 : A ≠ []) (hB : allD B) (hP : (P = [] ∧ V = 0) ∨ ∃ ns E, P = ptx ns E ∧ allD E ∧ E ≠ [] ∧ V = pwN ns E) (hl : (dtx ng A B P).length ≤ 4096) (w : World) :
    Calls Tryz.prog 16 #[.string ⟨(dtx ng A B P).toArray⟩] w fun e w' =>
      ∃ x : Nat, e = .returned (.tuple #[.float .f32 (x + sg ng), .int .i64 0, .int .i64 0]) ∧ NB (nat (A ++ B) * 10 ^ (V - (B.length : Int)).toNat) (10 ^ (-(V - (B.length : Int))).toNat) x ∧ Keep w w' := by
  have hP' : P = [] ∨ ∃ ns E, P = ptx ns E ∧ allD E ∧ E ≠ [] := by
    rcases hP with h | ⟨ns, E, h1, h2, h3, -⟩
    · exact .inl h.1
    · exact .inr ⟨ns, E, h1, h2, h3⟩
  obtain ⟨p1, p2, p3, p4, p5, X, hX, hk⟩ := dtx_parts ng A B P hA hA0 hB hP'
  obtain ⟨g1, g2, g3, g4⟩ := way_go p5
  have hall : cOk (dtx ng A B P) = true ∧ rdP (dtx ng A B P) = V - (B.length : Int) := by
    rw [p2] at g1 g2 g4
    unfold rdP
    rw [g1, g2, g4, p4]
    rcases hP with ⟨h1, h2⟩ | ⟨ns, E, h1, h2, h3, h4⟩
    · obtain ⟨q1, q2, q3, q4⟩ := at_end hX hk h1
      refine ⟨q2, ?_⟩
      rw [q3, q4, h2]
      have : pwN false [] = 0 := by decide
      rw [this]
    · subst h1
      obtain ⟨q1, q2, q3⟩ := at_pow ns E hX hk h2 h3
      exact ⟨q1, by rw [q2, q3, h4]⟩
  have hN : rdN (dtx ng A B P) = nat (A ++ B) := by unfold rdN; rw [p3, p4]
  have h := Read_dec (dtx ng A B P) w hl hall.1 p2
  rw [p1, hN, hall.2] at h
  exact h
end Nw
end Go.Proofs.YtpdjpjkieafnbaaGreatDoor.Li
set_option linter.unusedVariables false
set_option linter.unusedSimpArgs false
namespace Go.Proofs.YtpdjpjkieafnbaaGreatDoor.Li
open Go.RowKit Lb
set_option maxRecDepth 100000 in
set_option maxHeartbeats 1000000 in
theorem digits3_any (n : Nat) (w : World) (hn : n < 1000) :
    Calls Tryz.prog 73 #[.int .i64 (n : Int)] w fun e w' => ∃ E, e = .returned (.string ⟨E.toArray⟩) ∧ allD E ∧ E ≠ [] ∧ nat E = n ∧ E.length ≤ 3 ∧ Keep w w' := by
  go_enter Tryz.func73, Tryz.ntmps73
  go_wp2_with fail
  go_loopg [0, 3] (n + 1) (fun g v0 v3 wr => ∃ (m : Nat) (E : List UInt8), m + (if E.isEmpty then 1 else 0) = g ∧ v0 = .int .i64 (m : Int) ∧ v3 = .string ⟨E.toArray⟩ ∧ Hid (allD E) ∧ Hid (nat E + m * 10 ^ E.length = n) ∧ Hid (E = [] ∨ 0 < m) ∧ m < 1000 ∧ Keep w wr)
  case atStart => exact ⟨n, [], rfl, rfl, rfl, by intro b hb; simp at hb, by unfold Hid; simp [nat], .inl rfl, hn, Keep.refl _⟩
  case round =>
    obtain ⟨m, E, hg, rfl, rfl, hE, hS, hz, hm, kr⟩ := hrel
    have hl : E.length ≤ 2 := by
      rcases hz.out with h | h
      · rw [h]; simp
      · have h1 := hS.out
        have h2 : 1 * 10 ^ E.length ≤ m * 10 ^ E.length := Nat.mul_le_mul_right _ h
        have h3 : 10 ^ E.length < 10 ^ 3 := by show _ < 1000; omega
        have := (Nat.pow_lt_pow_iff_right (show 1 < 10 by omega)).1 h3
        omega
    have hcv := conv1 wr (48 + m % 10) (by omega)
    have hcat := one_cat (UInt8.ofNat (48 + m % 10)) E
    have hstep : Hid (nat (UInt8.ofNat (48 + m % 10) :: E) + m / 10 * 10 ^ (UInt8.ofNat (48 + m % 10) :: E).length = n) := dgo_step hS.out
    have hall : Hid (allD (UInt8.ofNat (48 + m % 10) :: E)) := by
      intro b hb
      rcases List.mem_cons.1 hb with rfl | h
      · exact (dig_ok (Nat.mod_lt m (by omega))).1
      · exact hE.out b h
    have hmod : Int.tmod (m : Int) 10 = ((m % 10 : Nat) : Int) := by rw [Int.ofNat_tmod]; rfl
    have hdiv : Int.tdiv (m : Int) 10 = ((m / 10 : Nat) : Int) := by rw [Int.ofNat_tdiv]; rfl
    have hwr : IntKind.u8.wrap (48 + ((m % 10 : Nat) : Int)) = ((48 + m % 10 : Nat) : Int) := by
      have : m % 10 < 10 := Nat.mod_lt _ (by omega)
      generalize m % 10 = d at *
      obtain rfl | rfl | rfl | rfl | rfl | rfl | rfl | rfl | rfl | rfl : d = 0 ∨ d = 1 ∨ d = 2 ∨ d = 3 ∨ d = 4 ∨ d = 5 ∨ d = 6 ∨ d = 7 ∨ d = 8 ∨ d = 9 := by omega
      all_goals rfl
    have hml : m % 10 < 10 := Nat.mod_lt _ (by omega)
    have hdl : m / 10 ≤ m := Nat.div_le_self _ _
    have hsz : (ByteArray.mk E.toArray).size = E.length := sz_mk E
    obtain ⟨c, hc⟩ : ∃ c, UInt8.ofNat (48 + m % 10) = c := ⟨_, rfl⟩
    obtain ⟨r, hr⟩ : ∃ r, m % 10 = r := ⟨_, rfl⟩
    obtain ⟨q, hq⟩ : ∃ q, m / 10 = q := ⟨_, rfl⟩
    have Hmq : Hid (q = 0 ∨ q < m) := by unfold Hid; omega
    rw [hc] at hcv hcat hstep hall
    rw [hr] at hcv hmod hwr hml
    rw [hq] at hdiv hstep hdl
    have hcv2 : (convert 61 9 (.slice (some ⟨wr.heap.size, 0, none⟩) 1 1)).run Tryz.prog (wr.alloc (.cells #[.int .u8 (48 + (r : Int))] 5)) = .ok (.string ⟨#[c]⟩) (wr.alloc (.cells #[.int .u8 (48 + (r : Int))] 5)) := hcv
    have Hl : Hid (E.length ≤ 2) := hl
    have Hg : Hid (m + (if E.isEmpty then 1 else 0) = gk) := hg
    clear hc hr hq hcv hg
    by_cases h0 : q = 0
    · have e0 : ((q : Int) == 0) = true := by rw [h0]; rfl
      have H0 : Hid (q = 0) := h0
      clear h0
      go_wp2_with fail
      go_ret
      refine ⟨c :: E, rfl, hall.out, by simp, ?_, by have := Hl.out; simp; omega, kr.alloc _⟩
      have := hstep.out
      rw [H0.out, Nat.zero_mul, Nat.add_zero] at this
      exact this
    · have e0 : ((q : Int) == 0) = false := by rw [beq_eq_false_iff_ne]; omega
      have H0 : Hid (0 < q) := Nat.pos_of_ne_zero h0
      clear h0
      go_wp2_with fail
      go_roundg (q)
      case measure =>
        have h1 := Hmq.out
        have h2 := H0.out
        have h3 := Hg.out
        split at h3 <;> omega
      case rel => exact ⟨q, c :: E, by simp, rfl, rfl, hall, hstep, .inr H0.out, by omega, kr.alloc _⟩
set_option maxRecDepth 100000 in
set_option maxHeartbeats 400000 in
theorem signT3_any (z : Int) (w : World) (h1 : -1000 < z) (h2 : z < 1000) :
    Calls Tryz.prog 35 #[.int .i64 z] w fun e w' => ∃ E, e = .returned (.string ⟨((if z < 0 then [45] else []) ++ E).toArray⟩) ∧ allD E ∧ E ≠ [] ∧ nat E = z.natAbs ∧ E.length ≤ 3 ∧ Keep w w' := by
  by_cases h : z < 0
  · obtain ⟨n, rfl⟩ : ∃ n : Nat, z = -(n : Int) := ⟨z.natAbs, by omega⟩
    have hd := fun wx => digits3_any n wx (by omega)
    have d0 : decide (-(n : Int) < 0) = true := decide_eq_true h
    have d1 : decide (0 < n) = true := decide_eq_true (by omega)
    have p1 : 0 < n := by omega
    have hw : wrap64 (-(-(n : Int))) = (n : Int) := by rw [Int.neg_neg]; exact IntWalk.wrap64_in _ (by omega)
    have hw2 : wrap64 (n : Int) = (n : Int) := IntWalk.wrap64_in _ (by omega)
    have HP : Hid (∀ E : List UInt8, (if -(n : Int) < 0 then [45] else []) ++ E = 45 :: E) := by
      intro E
      rw [if_pos h]; rfl
    have hna : Hid ((-(n : Int)).natAbs = n) := by unfold Hid; omega
    clear h h1 h2
    go_enter Tryz.func35, Tryz.ntmps35
    go_wp2_with fail
    refine (hd _).mono ?_
    rintro e w2 ⟨E, rfl, e1, e2, e3, e4, k2⟩
    have hcat := one_cat 45 E
    have hsz : (ByteArray.mk E.toArray).size = E.length := sz_mk E
    have HE : Hid (allD E ∧ E ≠ [] ∧ nat E = n) := ⟨e1, e2, e3⟩
    clear e1 e2 e3
    go_wp2_with fail
    go_ret
    exact ⟨E, rfl, HE.out.1, HE.out.2.1, HE.out.2.2, e4, k2⟩
  · obtain ⟨n, rfl⟩ : ∃ n : Nat, z = (n : Int) := ⟨z.natAbs, by omega⟩
    have hd := fun wx => digits3_any n wx (by omega)
    have d0 : decide ((n : Int) < 0) = false := decide_eq_false h
    have HP : Hid (∀ E : List UInt8, (if (n : Int) < 0 then [45] else []) ++ E = E) := by
      intro E
      rw [if_neg h]; rfl
    have hna : Hid (((n : Int)).natAbs = n) := by unfold Hid; omega
    clear h h1 h2
    go_enter Tryz.func35, Tryz.ntmps35
    go_wp2_with fail
    refine (hd _).mono ?_
    rintro e w2 ⟨E, rfl, e1, e2, e3, e4, k2⟩
    have HE : Hid (allD E ∧ E ≠ [] ∧ nat E = n) := ⟨e1, e2, e3⟩
    clear e1 e2 e3
    go_wp2_with fail
    go_ret
    exact ⟨E, rfl, HE.out.1, HE.out.2.1, HE.out.2.2, e4, k2⟩
end Go.Proofs.YtpdjpjkieafnbaaGreatDoor.Li
