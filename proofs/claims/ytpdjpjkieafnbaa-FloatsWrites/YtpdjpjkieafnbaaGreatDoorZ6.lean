import Derived.Test.YtpdjpjkieafnbaaGreatDoorNX3
import Derived.Test.YtpdjpjkieafnbaaGreatDoorR12
import Derived.Test.YtpdjpjkieafnbaaGreatDoorR4
import Derived.BigQuiet
import Derived.Deep.LoopGhost
set_option linter.unusedVariables false
set_option linter.unusedSimpArgs false
namespace Go.Proofs.YtpdjpjkieafnbaaGreatDoor.Li
open Go.RowKit Lb Nr
set_option maxRecDepth 100000 in
set_option maxHeartbeats 2000000 in
/-- The bits of a hexadecimal. -/
theorem amount_hex (ng pn : Bool) (wh pt ds : List UInt8) (hd : allX (wh ++ pt)) (hds : allD ds) (hl : (wh ++ pt).length ≤ 4096) (hl2 : ds.length ≤ 4096) (w : World) :
    Calls Tryz.prog 90 #[.agg #[.int .i64 52, .int .i64 2047, .int .i64 (-1074)], .agg #[.bool ng, .bool true, .string ⟨wh.toArray⟩, .string ⟨pt.toArray⟩, .bool pn, .string ⟨ds.toArray⟩]] w fun e w' =>
      ∃ x : Nat, e = .returned (.int .u64 (x : Nat)) ∧ NB (hnat (wh ++ pt) * 2 ^ (pwN pn ds - 4 * (pt.length : Int)).toNat) (2 ^ (-(pwN pn ds - 4 * (pt.length : Int))).toNat) x ∧ Keep w w' := by
  have hP := fun wx => powerNumber_any ng true pn wh pt ds hds hl2 wx
  have hpin := pwN_in pn ds
  obtain ⟨q, g1, g2, g3, g4, g5, g6⟩ := hex_parts hd
  have hwl : wh.length ≤ 4096 := by rw [List.length_append] at hl; omega
  have hptl : pt.length ≤ 4096 := by rw [List.length_append] at hl; omega
  have htl : (tl0 (wh ++ pt)).length ≤ 4096 := Nat.le_trans (tl0_len _) hl
  have hTL := fun wx => trl_any (wh ++ pt) wx
  have hTR := fun wx => trr_any (tl0 (wh ++ pt)) wx (by omega)
  have hcat := catB wh pt
  have hcs : (ByteArray.mk wh.toArray ++ ByteArray.mk pt.toArray).size ≤ 4096 := by rw [hcat, sz_mk]; exact hl
  have hNat := fun wx (h0 : tr0 (tl0 (wh ++ pt)) ≠ []) => natural_hex ng pn wh pt ds (tr0 (tl0 (wh ++ pt))) wx g5 (by omega)
  have hBP := fun (n : Nat) wx (hn : n ≤ 20000) => basePower_hex ng pn wh pt ds n wx hn
  obtain ⟨S, hS⟩ : ∃ S, hnat (tr0 (tl0 (wh ++ pt))) = S := ⟨_, rfl⟩
  obtain ⟨N, hN⟩ : ∃ N, hnat (wh ++ pt) = N := ⟨_, rfl⟩
  obtain ⟨D, hD⟩ : ∃ D, wh ++ pt = D := ⟨_, rfl⟩
  obtain ⟨G, hG⟩ : ∃ G, tl0 D = G := ⟨_, rfl⟩
  obtain ⟨H, hH⟩ : ∃ H, tr0 G = H := ⟨_, rfl⟩
  rw [hN] at g2 g3 ⊢
  rw [hD] at g1 g2 g3 g4 g5 g6 htl hTL hTR hcat hNat hS
  rw [hG] at g1 g2 g3 g4 g5 g6 htl hTL hTR hNat hS
  rw [hH] at g1 g2 g3 g4 g5 g6 hTR hNat hS
  rw [hS] at g2 g4 g6 hNat
  obtain ⟨L, hL⟩ : ∃ L, H.length = L := ⟨_, rfl⟩
  obtain ⟨gl, hgl⟩ : ∃ gl, G.length = gl := ⟨_, rfl⟩
  obtain ⟨pl, hpl⟩ : ∃ pl, pt.length = pl := ⟨_, rfl⟩
  obtain ⟨V, hV⟩ : ∃ V, pwN pn ds = V := ⟨_, rfl⟩
  have z1 : (ByteArray.mk H.toArray).size = L := by rw [sz_mk]; exact hL
  have z2 : (ByteArray.mk G.toArray).size = gl := by rw [sz_mk]; exact hgl
  have z3 : (ByteArray.mk pt.toArray).size = pl := by rw [sz_mk]; exact hpl
  rw [hV] at hP hpin ⊢
  rw [hL, hgl] at g1
  rw [hL] at g4 g6
  rw [hgl] at htl
  rw [hpl] at hptl ⊢
  clear hN hD hG hH hS hL hgl hpl hV hd hl g5 hds
  have b1 := hpin.1
  have b2 := hpin.2
  clear hpin
  have HG2 : Hid (N = S * 16 ^ q) := g2
  have HG3 : Hid (H = [] → N = 0) := g3
  have HG4 : Hid (H ≠ [] → 0 < S ∧ 16 ^ (L - 1) ≤ S) := g4
  have HG6 : Hid (S < 16 ^ L) := g6
  have HG1 : Hid (gl = L + q) := g1
  have hL4 : L ≤ gl := by omega
  clear g1 g2 g3 g4 g6
  go_enter Tryz.func90, Tryz.ntmps90
  go_upto_region 5 with (go_at_call 136; refine (hTL _).mono ?_; rintro e wz ⟨rfl, hz⟩; rw [hz]; clear hz)
  go_region_held3 (fun w' => w'.cell? ⟨w.heap.size + 1, 0, none⟩ = some (.bool ng) ∧ w'.cell? ⟨w.heap.size + 1, 1, none⟩ = some (.bool true) ∧ w'.cell? ⟨w.heap.size + 1, 2, none⟩ = some (.string ⟨wh.toArray⟩) ∧ w'.cell? ⟨w.heap.size + 1, 3, none⟩ = some (.string ⟨pt.toArray⟩) ∧ w'.cell? ⟨w.heap.size + 1, 4, none⟩ = some (.bool pn) ∧ w'.cell? ⟨w.heap.size + 1, 5, none⟩ = some (.string ⟨ds.toArray⟩)) (go_keep) (first | (go_at_call 137; refine (hP _).mono ?_; rintro e w2 ⟨rfl, o, p, rfl⟩))
  go_simp
  go_upto_region 9 with (go_at_call 110; refine (hTR _).mono ?_; rintro e wz ⟨rfl, hz⟩; rw [hz]; clear hz)
  have KA : Keep w (((((w.alloc (.cells #[.int .i64 52, .int .i64 2047, .int .i64 (-1074)] 85)).alloc (.cells #[.bool ng, .bool true, .string ⟨wh.toArray⟩, .string ⟨pt.toArray⟩, .bool pn, .string ⟨ds.toArray⟩] 129)).alloc o).alloc (.stringIter ⟨ds.toArray⟩ p)).drew) := (((((Keep.refl w).alloc _).alloc _).alloc o).alloc _).drew
  have FA : ∀ wx, Keep (((((w.alloc (.cells #[.int .i64 52, .int .i64 2047, .int .i64 (-1074)] 85)).alloc (.cells #[.bool ng, .bool true, .string ⟨wh.toArray⟩, .string ⟨pt.toArray⟩, .bool pn, .string ⟨ds.toArray⟩] 129)).alloc o).alloc (.stringIter ⟨ds.toArray⟩ p)).drew) wx → Fm wx w.heap.size ∧ Sp wx (w.heap.size + 1) #[.bool ng, .bool true, .string ⟨wh.toArray⟩, .string ⟨pt.toArray⟩, .bool pn, .string ⟨ds.toArray⟩] := by
    intro wx kx
    refine ⟨(Fm.new w).keep (((((Keep.refl _).alloc _).alloc o).alloc _).drew.trans kx), ?_⟩
    have := Sp.new (w.alloc (.cells #[.int .i64 52, .int .i64 2047, .int .i64 (-1074)] 85)) #[.bool ng, .bool true, .string ⟨wh.toArray⟩, .string ⟨pt.toArray⟩, .bool pn, .string ⟨ds.toArray⟩]
    rw [show (w.alloc (.cells #[.int .i64 52, .int .i64 2047, .int .i64 (-1074)] 85)).heap.size = w.heap.size + 1 by simp] at this
    exact this.keep ((((Keep.refl _).alloc o).alloc _).drew.trans kx)
  generalize ((((w.alloc (.cells #[.int .i64 52, .int .i64 2047, .int .i64 (-1074)] 85)).alloc (.cells #[.bool ng, .bool true, .string ⟨wh.toArray⟩, .string ⟨pt.toArray⟩, .bool pn, .string ⟨ds.toArray⟩] 129)).alloc o).alloc (.stringIter ⟨ds.toArray⟩ p)).drew = wA at KA FA ⊢
  have HKA : Hid (Keep w wA) := KA
  have HFA : Hid (∀ wx, Keep wA wx → Fm wx w.heap.size ∧ Sp wx (w.heap.size + 1) #[.bool ng, .bool true, .string ⟨wh.toArray⟩, .string ⟨pt.toArray⟩, .bool pn, .string ⟨ds.toArray⟩]) := FA
  clear KA FA hTL hTR hP
  obtain ⟨P, hP1⟩ : ∃ P : Int, V - 4 * (pl : Int) + 4 * ((gl : Int) - (L : Int)) = P := ⟨_, rfl⟩
  rw [hP1]
  have HP1 : Hid (P = V - 4 * (pl : Int) + 4 * (q : Int)) := by
    unfold Hid
    have := HG1.out
    omega
  have bP : -1100000 ≤ P ∧ P ≤ 1100000 := by omega
  have bP1 := bP.1
  have bP2 := bP.2
  clear bP hP1
  have fin : ∀ x, NB (S * 2 ^ P.toNat) (2 ^ (-P).toNat) x → NB (N * 2 ^ (V - 4 * (pl : Int)).toNat) (2 ^ (-(V - 4 * (pl : Int))).toNat) x := by
    intro x h
    rw [HG2.out]
    exact NB.movedX HP1.out h
  by_cases c0 : H = []
  · have e0 : H.isEmpty = true := by rw [c0]; rfl
    have hz : NB (N * 2 ^ (V - 4 * (pl : Int)).toNat) (2 ^ (-(V - 4 * (pl : Int))).toNat) 0 := by
      rw [HG3.out c0, Nat.zero_mul]
      exact ⟨fun _ => rfl, fun h => absurd h (by omega)⟩
    have HZ : Hid (NB (N * 2 ^ (V - 4 * (pl : Int)).toNat) (2 ^ (-(V - 4 * (pl : Int))).toNat) 0) := hz
    clear c0 hz fin
    go_wp2_with fail
    go_ret
    exact ⟨0, rfl, HZ.out, HKA.out⟩
  have e0 : H.isEmpty = false := by simpa using c0
  obtain ⟨s0, s1⟩ := HG4.out c0
  have hL0 : Hid (0 < L) := by
    rw [← z1, sz_mk]
    exact List.length_pos_iff.2 c0
  have hNat' := fun wx => hNat wx c0
  have S0 : Hid (0 < S) := s0
  have S1 : Hid (16 ^ (L - 1) ≤ S) := s1
  have Fin : Hid (∀ x, NB (S * 2 ^ P.toNat) (2 ^ (-P).toNat) x → NB (N * 2 ^ (V - 4 * (pl : Int)).toNat) (2 ^ (-(V - 4 * (pl : Int))).toNat) x) := fin
  clear c0 s0 s1 hNat fin
  by_cases c1 : 4 * (L : Int) + P < -2000
  · have e1 : decide (4 * (L : Int) + P < -2000) = true := decide_eq_true c1
    have HZ : Hid (NB (N * 2 ^ (V - 4 * (pl : Int)).toNat) (2 ^ (-(V - 4 * (pl : Int))).toNat) 0) := Fin.out 0 (hex_low 2000 (by omega) HG6.out (by omega))
    clear c1
    go_wp2_with fail
    go_ret
    exact ⟨0, rfl, HZ.out, HKA.out⟩
  have e1 : decide (4 * (L : Int) + P < -2000) = false := decide_eq_false c1
  by_cases c2 : 2000 < 4 * (L : Int) + P
  · have e2 : decide (2000 < 4 * (L : Int) + P) = true := decide_eq_true c2
    have HZ : Hid (NB (N * 2 ^ (V - 4 * (pl : Int)).toNat) (2 ^ (-(V - 4 * (pl : Int))).toNat) 9218868437227405312) := Fin.out _ (hex_high 1990 (by omega) S1.out hL0.out (by omega))
    obtain ⟨f0, f1, f2⟩ := (HFA.out _ (Keep.refl _)).1.cells
    have hI := fun wx => infinity_any wx
    unfold fmtV at hI
    clear c1 c2
    go_wp2_with fail
    refine (hI _).mono ?_
    rintro e w3 ⟨rfl, k3⟩
    go_wp2_with fail
    go_ret
    exact ⟨_, rfl, HZ.out, HKA.out.trans k3⟩
  have e2 : decide (2000 < 4 * (L : Int) + P) = false := decide_eq_false c2
  obtain ⟨hf, hsp⟩ := HFA.out _ (Keep.refl _)
  obtain ⟨f0, f1, f2⟩ := hf.cells
  obtain ⟨t0, t1, t2, t3, t4, t5⟩ := hsp.six
  clear hf hsp
  have hNr := fun v1 v2 A B wx h1 h2 h3 h4 => nearest_any v1 v2 A B 2001 wx h1 h2 (by omega) h3 h4
  unfold fmtV at hNr
  by_cases c3 : P < 0
  · have e3 : decide (P < 0) = true := decide_eq_true c3
    obtain ⟨n, hn⟩ : ∃ n : Nat, -P = (n : Int) := ⟨(-P).toNat, by omega⟩
    have hng : IntKind.i64.wrap (-P) = (n : Int) := by rw [IntWalk.i64_left, hn]; exact IntWalk.wrap64_in _ (by omega)
    have hng2 : wrap64 (-P) = (n : Int) := by rw [hn]; exact IntWalk.wrap64_in _ (by omega)
    have hBP' := fun wx => hBP n wx (by omega)
    have HM : Hid (P.toNat = 0 ∧ (-P).toNat = n) := by unfold Hid; omega
    clear c1 c2 c3 hn hBP
    go_upto_region 14 with fail
    go_region_held3 (fun w' => w'.cell? ⟨w.heap.size, 0, none⟩ = some (.int .i64 52) ∧ w'.cell? ⟨w.heap.size, 1, none⟩ = some (.int .i64 2047) ∧ w'.cell? ⟨w.heap.size, 2, none⟩ = some (.int .i64 (-1074)) ∧ w'.cell? ⟨w.heap.size + 1, 0, none⟩ = some (.bool ng) ∧ w'.cell? ⟨w.heap.size + 1, 1, none⟩ = some (.bool true) ∧ w'.cell? ⟨w.heap.size + 1, 2, none⟩ = some (.string ⟨wh.toArray⟩) ∧ w'.cell? ⟨w.heap.size + 1, 3, none⟩ = some (.string ⟨pt.toArray⟩) ∧ w'.cell? ⟨w.heap.size + 1, 4, none⟩ = some (.bool pn) ∧ w'.cell? ⟨w.heap.size + 1, 5, none⟩ = some (.string ⟨ds.toArray⟩)) (go_keep) (first
      | (go_at_call 138; refine (hNat' _).mono ?_; rintro e w3 ⟨v, rfl, hv, k3⟩; have K3 : Hid (Keep wA w3) := (Keep.refl wA).drew.trans k3; have HV : Hid (Lv w3 v S 2001) := hv; clear hv k3; obtain ⟨hf, hsp⟩ := HFA.out _ K3.out; obtain ⟨f0, f1, f2⟩ := hf.cells; obtain ⟨t0, t1, t2, t3, t4, t5⟩ := hsp.six; clear hf hsp)
      | (go_at_call 139; refine (hBP' _).mono ?_; rintro e w4 ⟨u, rfl, hu, k4⟩; have K4 : Hid (Keep wA w4) := K3.out.trans k4; have HV4 : Hid (Lv w4 v S 2001) := HV.out.keep k4; have HU : Hid (Lv w4 u (2 ^ n) 2001) := hu; clear hu k4; obtain ⟨hf, hsp⟩ := HFA.out _ K4.out; obtain ⟨f0, f1, f2⟩ := hf.cells; obtain ⟨t0, t1, t2, t3, t4, t5⟩ := hsp.six; clear hf hsp)
      | (go_at_call 71; refine (hNr v u S (2 ^ n) _ HV4.out HU.out S0.out (Nat.pow_pos (by omega))).mono ?_; rintro e w5 ⟨x, rfl, hx, k5⟩; have K5 : Hid (Keep wA w5) := K4.out.trans k5; have HX : Hid (∀ E, IsE S (2 ^ n) E → x = wb (rup (sA S E) (sB (2 ^ n) E)) E) := hx; clear hx k5; obtain ⟨hf, hsp⟩ := HFA.out _ K5.out; obtain ⟨f0, f1, f2⟩ := hf.cells; obtain ⟨t0, t1, t2, t3, t4, t5⟩ := hsp.six; clear hf hsp))
    go_simp
    go_wp2_with fail
    go_ret
    refine ⟨x, rfl, Fin.out x ?_, HKA.out.trans K5.out⟩
    rw [HM.out.1, HM.out.2, Nat.pow_zero, Nat.mul_one]
    have := S0.out
    exact ⟨fun h => by omega, fun _ => HX.out⟩
  · have e3 : decide (P < 0) = false := decide_eq_false c3
    obtain ⟨n, hn⟩ : ∃ n : Nat, P = (n : Int) := ⟨P.toNat, by omega⟩
    have hBP' : ∀ wx, Calls Tryz.prog 139 #[.agg #[.bool ng, .bool true, .string ⟨wh.toArray⟩, .string ⟨pt.toArray⟩, .bool pn, .string ⟨ds.toArray⟩], .int .i64 P] wx fun e w' => ∃ v, e = .returned v ∧ Lv w' v (2 ^ n) 2001 ∧ Keep wx w' := fun wx => by
      rw [hn]
      exact hBP n wx (by omega)
    obtain ⟨K2, hK2⟩ : ∃ K2, K2 = 4002 := ⟨_, rfl⟩
    have hb : S * 2 ^ n < 4294967296 ^ K2 := by
      obtain ⟨K, hK⟩ : ∃ K, K = 2001 := ⟨_, rfl⟩
      have h3 : S * 2 ^ n ≤ 16 ^ L * 2 ^ n := Nat.mul_le_mul_right _ (Nat.le_of_lt HG6.out)
      have h4 : (16 : Nat) ^ L * 2 ^ n = 2 ^ (4 * L + n) := by rw [show (16 : Nat) = 2 ^ 4 from rfl, ← Nat.pow_mul, ← Nat.pow_add]
      have h5 := pow_small (4 * L + n) (K2 - 1) (by clear h3 h4; omega)
      have h6 : 4294967296 ^ (K2 - 1) < 4294967296 ^ K2 := Nat.pow_lt_pow_right (by omega) (by omega)
      rw [h4] at h3
      exact Nat.lt_of_le_of_lt (Nat.le_trans h3 h5) h6
    have hMu := fun v1 v2 wx h1 h2 => Mul_lv v1 v2 S (2 ^ n) 2001 K2 wx h1 h2 (by omega) hb
    have hFr := fun wx => From_lv 1 wx (by omega)
    have hNr2 := fun v1 v2 A B wx h1 h2 h3 h4 => nearest_any v1 v2 A B K2 wx h1 h2 (by omega) h3 h4
    unfold fmtV at hNr2
    have hK22 : Hid (2 ≤ K2) := by unfold Hid; omega
    have HM : Hid (P.toNat = n ∧ (-P).toNat = 0) := by unfold Hid; omega
    clear c1 c2 c3 hn hBP hNr hb hK2
    go_upto_region 15 with fail
    go_region_held3 (fun w' => w'.cell? ⟨w.heap.size, 0, none⟩ = some (.int .i64 52) ∧ w'.cell? ⟨w.heap.size, 1, none⟩ = some (.int .i64 2047) ∧ w'.cell? ⟨w.heap.size, 2, none⟩ = some (.int .i64 (-1074)) ∧ w'.cell? ⟨w.heap.size + 1, 0, none⟩ = some (.bool ng) ∧ w'.cell? ⟨w.heap.size + 1, 1, none⟩ = some (.bool true) ∧ w'.cell? ⟨w.heap.size + 1, 2, none⟩ = some (.string ⟨wh.toArray⟩) ∧ w'.cell? ⟨w.heap.size + 1, 3, none⟩ = some (.string ⟨pt.toArray⟩) ∧ w'.cell? ⟨w.heap.size + 1, 4, none⟩ = some (.bool pn) ∧ w'.cell? ⟨w.heap.size + 1, 5, none⟩ = some (.string ⟨ds.toArray⟩)) (go_keep) (first
      | (go_at_call 138; refine (hNat' _).mono ?_; rintro e w3 ⟨v, rfl, hv, k3⟩; have K3 : Hid (Keep wA w3) := (Keep.refl wA).drew.trans k3; have HV : Hid (Lv w3 v S 2001) := hv; clear hv k3; obtain ⟨hf, hsp⟩ := HFA.out _ K3.out; obtain ⟨f0, f1, f2⟩ := hf.cells; obtain ⟨t0, t1, t2, t3, t4, t5⟩ := hsp.six; clear hf hsp)
      | (go_at_call 139; refine (hBP' _).mono ?_; rintro e w4 ⟨u, rfl, hu, k4⟩; have K4 : Hid (Keep wA w4) := K3.out.trans k4; have HV4 : Hid (Lv w4 v S 2001) := HV.out.keep k4; have HU : Hid (Lv w4 u (2 ^ n) 2001) := hu; clear hu k4; obtain ⟨hf, hsp⟩ := HFA.out _ K4.out; obtain ⟨f0, f1, f2⟩ := hf.cells; obtain ⟨t0, t1, t2, t3, t4, t5⟩ := hsp.six; clear hf hsp)
      | (go_at_call 108; refine (hMu v u _ HV4.out HU.out).mono ?_; rintro e w5 ⟨z, rfl, hz, k5⟩; have K5 : Hid (Keep wA w5) := K4.out.trans k5; have HZ5 : Hid (Lv w5 z (S * 2 ^ n) K2) := hz; clear hz k5; obtain ⟨hf, hsp⟩ := HFA.out _ K5.out; obtain ⟨f0, f1, f2⟩ := hf.cells; obtain ⟨t0, t1, t2, t3, t4, t5⟩ := hsp.six; clear hf hsp)
      | (go_at_call 69; refine (hFr _).mono ?_; rintro e w6 ⟨y, rfl, hy, k6⟩; have K6 : Hid (Keep wA w6) := K5.out.trans k6; have HZ6 : Hid (Lv w6 z (S * 2 ^ n) K2) := HZ5.out.keep k6; have HY : Hid (Lv w6 y 1 K2) := hy.more hK22.out; clear hy k6; obtain ⟨hf, hsp⟩ := HFA.out _ K6.out; obtain ⟨f0, f1, f2⟩ := hf.cells; obtain ⟨t0, t1, t2, t3, t4, t5⟩ := hsp.six; clear hf hsp)
      | (go_at_call 71; refine (hNr2 z y (S * 2 ^ n) 1 _ HZ6.out HY.out (Nat.mul_pos S0.out (Nat.pow_pos (by omega))) (by omega)).mono ?_; rintro e w7 ⟨x, rfl, hx, k7⟩; have K7 : Hid (Keep wA w7) := K6.out.trans k7; have HX : Hid (∀ E, IsE (S * 2 ^ n) 1 E → x = wb (rup (sA (S * 2 ^ n) E) (sB 1 E)) E) := hx; clear hx k7; obtain ⟨hf, hsp⟩ := HFA.out _ K7.out; obtain ⟨f0, f1, f2⟩ := hf.cells; obtain ⟨t0, t1, t2, t3, t4, t5⟩ := hsp.six; clear hf hsp))
    go_simp
    go_wp2_with fail
    go_ret
    refine ⟨x, rfl, Fin.out x ?_, HKA.out.trans K7.out⟩
    rw [HM.out.1, HM.out.2, Nat.pow_zero]
    have := Nat.mul_pos S0.out (Nat.pow_pos (n := n) (show 0 < 2 by omega))
    exact ⟨fun h => by omega, fun _ => HX.out⟩
end Go.Proofs.YtpdjpjkieafnbaaGreatDoor.Li
set_option linter.unusedVariables false
set_option linter.unusedSimpArgs false
namespace Go.Proofs.YtpdjpjkieafnbaaGreatDoor.Li.Nw
open Go.RowKit Lb Nr
set_option maxRecDepth 100000 in
set_option maxHeartbeats 2000000 in
/-- The bits of a hexadecimal. -/
theorem amount_hex (ng pn : Bool) (wh pt ds : List UInt8) (hd : allX (wh ++ pt)) (hds : allD ds) (hl : (wh ++ pt).length ≤ 4096) (hl2 : ds.length ≤ 4096) (w : World) :
    Calls Tryz.prog 90 #[.agg #[.int .i64 23, .int .i64 255, .int .i64 (-149)], .agg #[.bool ng, .bool true, .string ⟨wh.toArray⟩, .string ⟨pt.toArray⟩, .bool pn, .string ⟨ds.toArray⟩]] w fun e w' =>
      ∃ x : Nat, e = .returned (.int .u64 (x : Nat)) ∧ NB (hnat (wh ++ pt) * 2 ^ (pwN pn ds - 4 * (pt.length : Int)).toNat) (2 ^ (-(pwN pn ds - 4 * (pt.length : Int))).toNat) x ∧ Keep w w' := by
  have hP := fun wx => powerNumber_any ng true pn wh pt ds hds hl2 wx
  have hpin := pwN_in pn ds
  obtain ⟨q, g1, g2, g3, g4, g5, g6⟩ := hex_parts hd
  have hwl : wh.length ≤ 4096 := by rw [List.length_append] at hl; omega
  have hptl : pt.length ≤ 4096 := by rw [List.length_append] at hl; omega
  have htl : (tl0 (wh ++ pt)).length ≤ 4096 := Nat.le_trans (tl0_len _) hl
  have hTL := fun wx => trl_any (wh ++ pt) wx
  have hTR := fun wx => trr_any (tl0 (wh ++ pt)) wx (by omega)
  have hcat := catB wh pt
  have hcs : (ByteArray.mk wh.toArray ++ ByteArray.mk pt.toArray).size ≤ 4096 := by rw [hcat, sz_mk]; exact hl
  have hNat := fun wx (h0 : tr0 (tl0 (wh ++ pt)) ≠ []) => natural_hex ng pn wh pt ds (tr0 (tl0 (wh ++ pt))) wx g5 (by omega)
  have hBP := fun (n : Nat) wx (hn : n ≤ 20000) => basePower_hex ng pn wh pt ds n wx hn
  obtain ⟨S, hS⟩ : ∃ S, hnat (tr0 (tl0 (wh ++ pt))) = S := ⟨_, rfl⟩
  obtain ⟨N, hN⟩ : ∃ N, hnat (wh ++ pt) = N := ⟨_, rfl⟩
  obtain ⟨D, hD⟩ : ∃ D, wh ++ pt = D := ⟨_, rfl⟩
  obtain ⟨G, hG⟩ : ∃ G, tl0 D = G := ⟨_, rfl⟩
  obtain ⟨H, hH⟩ : ∃ H, tr0 G = H := ⟨_, rfl⟩
  rw [hN] at g2 g3 ⊢
  rw [hD] at g1 g2 g3 g4 g5 g6 htl hTL hTR hcat hNat hS
  rw [hG] at g1 g2 g3 g4 g5 g6 htl hTL hTR hNat hS
  rw [hH] at g1 g2 g3 g4 g5 g6 hTR hNat hS
  rw [hS] at g2 g4 g6 hNat
  obtain ⟨L, hL⟩ : ∃ L, H.length = L := ⟨_, rfl⟩
  obtain ⟨gl, hgl⟩ : ∃ gl, G.length = gl := ⟨_, rfl⟩
  obtain ⟨pl, hpl⟩ : ∃ pl, pt.length = pl := ⟨_, rfl⟩
  obtain ⟨V, hV⟩ : ∃ V, pwN pn ds = V := ⟨_, rfl⟩
  have z1 : (ByteArray.mk H.toArray).size = L := by rw [sz_mk]; exact hL
  have z2 : (ByteArray.mk G.toArray).size = gl := by rw [sz_mk]; exact hgl
  have z3 : (ByteArray.mk pt.toArray).size = pl := by rw [sz_mk]; exact hpl
  rw [hV] at hP hpin ⊢
  rw [hL, hgl] at g1
  rw [hL] at g4 g6
  rw [hgl] at htl
  rw [hpl] at hptl ⊢
  clear hN hD hG hH hS hL hgl hpl hV hd hl g5 hds
  have b1 := hpin.1
  have b2 := hpin.2
  clear hpin
  have HG2 : Hid (N = S * 16 ^ q) := g2
  have HG3 : Hid (H = [] → N = 0) := g3
  have HG4 : Hid (H ≠ [] → 0 < S ∧ 16 ^ (L - 1) ≤ S) := g4
  have HG6 : Hid (S < 16 ^ L) := g6
  have HG1 : Hid (gl = L + q) := g1
  have hL4 : L ≤ gl := by omega
  clear g1 g2 g3 g4 g6
  go_enter Tryz.func90, Tryz.ntmps90
  go_upto_region 5 with (go_at_call 136; refine (hTL _).mono ?_; rintro e wz ⟨rfl, hz⟩; rw [hz]; clear hz)
  go_region_held3 (fun w' => w'.cell? ⟨w.heap.size + 1, 0, none⟩ = some (.bool ng) ∧ w'.cell? ⟨w.heap.size + 1, 1, none⟩ = some (.bool true) ∧ w'.cell? ⟨w.heap.size + 1, 2, none⟩ = some (.string ⟨wh.toArray⟩) ∧ w'.cell? ⟨w.heap.size + 1, 3, none⟩ = some (.string ⟨pt.toArray⟩) ∧ w'.cell? ⟨w.heap.size + 1, 4, none⟩ = some (.bool pn) ∧ w'.cell? ⟨w.heap.size + 1, 5, none⟩ = some (.string ⟨ds.toArray⟩)) (go_keep) (first | (go_at_call 137; refine (hP _).mono ?_; rintro e w2 ⟨rfl, o, p, rfl⟩))
  go_simp
  go_upto_region 9 with (go_at_call 110; refine (hTR _).mono ?_; rintro e wz ⟨rfl, hz⟩; rw [hz]; clear hz)
  have KA : Keep w (((((w.alloc (.cells #[.int .i64 23, .int .i64 255, .int .i64 (-149)] 85)).alloc (.cells #[.bool ng, .bool true, .string ⟨wh.toArray⟩, .string ⟨pt.toArray⟩, .bool pn, .string ⟨ds.toArray⟩] 129)).alloc o).alloc (.stringIter ⟨ds.toArray⟩ p)).drew) := (((((Keep.refl w).alloc _).alloc _).alloc o).alloc _).drew
  have FA : ∀ wx, Keep (((((w.alloc (.cells #[.int .i64 23, .int .i64 255, .int .i64 (-149)] 85)).alloc (.cells #[.bool ng, .bool true, .string ⟨wh.toArray⟩, .string ⟨pt.toArray⟩, .bool pn, .string ⟨ds.toArray⟩] 129)).alloc o).alloc (.stringIter ⟨ds.toArray⟩ p)).drew) wx → Fm wx w.heap.size ∧ Sp wx (w.heap.size + 1) #[.bool ng, .bool true, .string ⟨wh.toArray⟩, .string ⟨pt.toArray⟩, .bool pn, .string ⟨ds.toArray⟩] := by
    intro wx kx
    refine ⟨(Fm.new w).keep (((((Keep.refl _).alloc _).alloc o).alloc _).drew.trans kx), ?_⟩
    have := Sp.new (w.alloc (.cells #[.int .i64 23, .int .i64 255, .int .i64 (-149)] 85)) #[.bool ng, .bool true, .string ⟨wh.toArray⟩, .string ⟨pt.toArray⟩, .bool pn, .string ⟨ds.toArray⟩]
    rw [show (w.alloc (.cells #[.int .i64 23, .int .i64 255, .int .i64 (-149)] 85)).heap.size = w.heap.size + 1 by simp] at this
    exact this.keep ((((Keep.refl _).alloc o).alloc _).drew.trans kx)
  generalize ((((w.alloc (.cells #[.int .i64 23, .int .i64 255, .int .i64 (-149)] 85)).alloc (.cells #[.bool ng, .bool true, .string ⟨wh.toArray⟩, .string ⟨pt.toArray⟩, .bool pn, .string ⟨ds.toArray⟩] 129)).alloc o).alloc (.stringIter ⟨ds.toArray⟩ p)).drew = wA at KA FA ⊢
  have HKA : Hid (Keep w wA) := KA
  have HFA : Hid (∀ wx, Keep wA wx → Fm wx w.heap.size ∧ Sp wx (w.heap.size + 1) #[.bool ng, .bool true, .string ⟨wh.toArray⟩, .string ⟨pt.toArray⟩, .bool pn, .string ⟨ds.toArray⟩]) := FA
  clear KA FA hTL hTR hP
  obtain ⟨P, hP1⟩ : ∃ P : Int, V - 4 * (pl : Int) + 4 * ((gl : Int) - (L : Int)) = P := ⟨_, rfl⟩
  rw [hP1]
  have HP1 : Hid (P = V - 4 * (pl : Int) + 4 * (q : Int)) := by
    unfold Hid
    have := HG1.out
    omega
  have bP : -1100000 ≤ P ∧ P ≤ 1100000 := by omega
  have bP1 := bP.1
  have bP2 := bP.2
  clear bP hP1
  have fin : ∀ x, NB (S * 2 ^ P.toNat) (2 ^ (-P).toNat) x → NB (N * 2 ^ (V - 4 * (pl : Int)).toNat) (2 ^ (-(V - 4 * (pl : Int))).toNat) x := by
    intro x h
    rw [HG2.out]
    exact NB.movedX HP1.out h
  by_cases c0 : H = []
  · have e0 : H.isEmpty = true := by rw [c0]; rfl
    have hz : NB (N * 2 ^ (V - 4 * (pl : Int)).toNat) (2 ^ (-(V - 4 * (pl : Int))).toNat) 0 := by
      rw [HG3.out c0, Nat.zero_mul]
      exact ⟨fun _ => rfl, fun h => absurd h (by omega)⟩
    have HZ : Hid (NB (N * 2 ^ (V - 4 * (pl : Int)).toNat) (2 ^ (-(V - 4 * (pl : Int))).toNat) 0) := hz
    clear c0 hz fin
    go_wp2_with fail
    go_ret
    exact ⟨0, rfl, HZ.out, HKA.out⟩
  have e0 : H.isEmpty = false := by simpa using c0
  obtain ⟨s0, s1⟩ := HG4.out c0
  have hL0 : Hid (0 < L) := by
    rw [← z1, sz_mk]
    exact List.length_pos_iff.2 c0
  have hNat' := fun wx => hNat wx c0
  have S0 : Hid (0 < S) := s0
  have S1 : Hid (16 ^ (L - 1) ≤ S) := s1
  have Fin : Hid (∀ x, NB (S * 2 ^ P.toNat) (2 ^ (-P).toNat) x → NB (N * 2 ^ (V - 4 * (pl : Int)).toNat) (2 ^ (-(V - 4 * (pl : Int))).toNat) x) := fin
  clear c0 s0 s1 hNat fin
  by_cases c1 : 4 * (L : Int) + P < -2000
  · have e1 : decide (4 * (L : Int) + P < -2000) = true := decide_eq_true c1
    have HZ : Hid (NB (N * 2 ^ (V - 4 * (pl : Int)).toNat) (2 ^ (-(V - 4 * (pl : Int))).toNat) 0) := Fin.out 0 (hex_low 2000 (by omega) HG6.out (by omega))
    clear c1
    go_wp2_with fail
    go_ret
    exact ⟨0, rfl, HZ.out, HKA.out⟩
  have e1 : decide (4 * (L : Int) + P < -2000) = false := decide_eq_false c1
  by_cases c2 : 2000 < 4 * (L : Int) + P
  · have e2 : decide (2000 < 4 * (L : Int) + P) = true := decide_eq_true c2
    have HZ : Hid (NB (N * 2 ^ (V - 4 * (pl : Int)).toNat) (2 ^ (-(V - 4 * (pl : Int))).toNat) 2139095040) := Fin.out _ (hex_high 1990 (by omega) S1.out hL0.out (by omega))
    obtain ⟨f0, f1, f2⟩ := (HFA.out _ (Keep.refl _)).1.cells
    have hI := fun wx => infinity_any wx
    unfold fmtV at hI
    clear c1 c2
    go_wp2_with fail
    refine (hI _).mono ?_
    rintro e w3 ⟨rfl, k3⟩
    go_wp2_with fail
    go_ret
    exact ⟨_, rfl, HZ.out, HKA.out.trans k3⟩
  have e2 : decide (2000 < 4 * (L : Int) + P) = false := decide_eq_false c2
  obtain ⟨hf, hsp⟩ := HFA.out _ (Keep.refl _)
  obtain ⟨f0, f1, f2⟩ := hf.cells
  obtain ⟨t0, t1, t2, t3, t4, t5⟩ := hsp.six
  clear hf hsp
  have hNr := fun v1 v2 A B wx h1 h2 h3 h4 => nearest_any v1 v2 A B 2001 wx h1 h2 (by omega) h3 h4
  unfold fmtV at hNr
  by_cases c3 : P < 0
  · have e3 : decide (P < 0) = true := decide_eq_true c3
    obtain ⟨n, hn⟩ : ∃ n : Nat, -P = (n : Int) := ⟨(-P).toNat, by omega⟩
    have hng : IntKind.i64.wrap (-P) = (n : Int) := by rw [IntWalk.i64_left, hn]; exact IntWalk.wrap64_in _ (by omega)
    have hng2 : wrap64 (-P) = (n : Int) := by rw [hn]; exact IntWalk.wrap64_in _ (by omega)
    have hBP' := fun wx => hBP n wx (by omega)
    have HM : Hid (P.toNat = 0 ∧ (-P).toNat = n) := by unfold Hid; omega
    clear c1 c2 c3 hn hBP
    go_upto_region 14 with fail
    go_region_held3 (fun w' => w'.cell? ⟨w.heap.size, 0, none⟩ = some (.int .i64 23) ∧ w'.cell? ⟨w.heap.size, 1, none⟩ = some (.int .i64 255) ∧ w'.cell? ⟨w.heap.size, 2, none⟩ = some (.int .i64 (-149)) ∧ w'.cell? ⟨w.heap.size + 1, 0, none⟩ = some (.bool ng) ∧ w'.cell? ⟨w.heap.size + 1, 1, none⟩ = some (.bool true) ∧ w'.cell? ⟨w.heap.size + 1, 2, none⟩ = some (.string ⟨wh.toArray⟩) ∧ w'.cell? ⟨w.heap.size + 1, 3, none⟩ = some (.string ⟨pt.toArray⟩) ∧ w'.cell? ⟨w.heap.size + 1, 4, none⟩ = some (.bool pn) ∧ w'.cell? ⟨w.heap.size + 1, 5, none⟩ = some (.string ⟨ds.toArray⟩)) (go_keep) (first
      | (go_at_call 138; refine (hNat' _).mono ?_; rintro e w3 ⟨v, rfl, hv, k3⟩; have K3 : Hid (Keep wA w3) := (Keep.refl wA).drew.trans k3; have HV : Hid (Lv w3 v S 2001) := hv; clear hv k3; obtain ⟨hf, hsp⟩ := HFA.out _ K3.out; obtain ⟨f0, f1, f2⟩ := hf.cells; obtain ⟨t0, t1, t2, t3, t4, t5⟩ := hsp.six; clear hf hsp)
      | (go_at_call 139; refine (hBP' _).mono ?_; rintro e w4 ⟨u, rfl, hu, k4⟩; have K4 : Hid (Keep wA w4) := K3.out.trans k4; have HV4 : Hid (Lv w4 v S 2001) := HV.out.keep k4; have HU : Hid (Lv w4 u (2 ^ n) 2001) := hu; clear hu k4; obtain ⟨hf, hsp⟩ := HFA.out _ K4.out; obtain ⟨f0, f1, f2⟩ := hf.cells; obtain ⟨t0, t1, t2, t3, t4, t5⟩ := hsp.six; clear hf hsp)
      | (go_at_call 71; refine (hNr v u S (2 ^ n) _ HV4.out HU.out S0.out (Nat.pow_pos (by omega))).mono ?_; rintro e w5 ⟨x, rfl, hx, k5⟩; have K5 : Hid (Keep wA w5) := K4.out.trans k5; have HX : Hid (∀ E, IsE S (2 ^ n) E → x = wb (Nr.rup (sA S E) (sB (2 ^ n) E)) E) := hx; clear hx k5; obtain ⟨hf, hsp⟩ := HFA.out _ K5.out; obtain ⟨f0, f1, f2⟩ := hf.cells; obtain ⟨t0, t1, t2, t3, t4, t5⟩ := hsp.six; clear hf hsp))
    go_simp
    go_wp2_with fail
    go_ret
    refine ⟨x, rfl, Fin.out x ?_, HKA.out.trans K5.out⟩
    rw [HM.out.1, HM.out.2, Nat.pow_zero, Nat.mul_one]
    have := S0.out
    exact ⟨fun h => by omega, fun _ => HX.out⟩
  · have e3 : decide (P < 0) = false := decide_eq_false c3
    obtain ⟨n, hn⟩ : ∃ n : Nat, P = (n : Int) := ⟨P.toNat, by omega⟩
    have hBP' : ∀ wx, Calls Tryz.prog 139 #[.agg #[.bool ng, .bool true, .string ⟨wh.toArray⟩, .string ⟨pt.toArray⟩, .bool pn, .string ⟨ds.toArray⟩], .int .i64 P] wx fun e w' => ∃ v, e = .returned v ∧ Lv w' v (2 ^ n) 2001 ∧ Keep wx w' := fun wx => by
      rw [hn]
      exact hBP n wx (by omega)
    obtain ⟨K2, hK2⟩ : ∃ K2, K2 = 4002 := ⟨_, rfl⟩
    have hb : S * 2 ^ n < 4294967296 ^ K2 := by
      obtain ⟨K, hK⟩ : ∃ K, K = 2001 := ⟨_, rfl⟩
      have h3 : S * 2 ^ n ≤ 16 ^ L * 2 ^ n := Nat.mul_le_mul_right _ (Nat.le_of_lt HG6.out)
      have h4 : (16 : Nat) ^ L * 2 ^ n = 2 ^ (4 * L + n) := by rw [show (16 : Nat) = 2 ^ 4 from rfl, ← Nat.pow_mul, ← Nat.pow_add]
      have h5 := pow_small (4 * L + n) (K2 - 1) (by clear h3 h4; omega)
      have h6 : 4294967296 ^ (K2 - 1) < 4294967296 ^ K2 := Nat.pow_lt_pow_right (by omega) (by omega)
      rw [h4] at h3
      exact Nat.lt_of_le_of_lt (Nat.le_trans h3 h5) h6
    have hMu := fun v1 v2 wx h1 h2 => Mul_lv v1 v2 S (2 ^ n) 2001 K2 wx h1 h2 (by omega) hb
    have hFr := fun wx => From_lv 1 wx (by omega)
    have hNr2 := fun v1 v2 A B wx h1 h2 h3 h4 => nearest_any v1 v2 A B K2 wx h1 h2 (by omega) h3 h4
    unfold fmtV at hNr2
    have hK22 : Hid (2 ≤ K2) := by unfold Hid; omega
    have HM : Hid (P.toNat = n ∧ (-P).toNat = 0) := by unfold Hid; omega
    clear c1 c2 c3 hn hBP hNr hb hK2
    go_upto_region 15 with fail
    go_region_held3 (fun w' => w'.cell? ⟨w.heap.size, 0, none⟩ = some (.int .i64 23) ∧ w'.cell? ⟨w.heap.size, 1, none⟩ = some (.int .i64 255) ∧ w'.cell? ⟨w.heap.size, 2, none⟩ = some (.int .i64 (-149)) ∧ w'.cell? ⟨w.heap.size + 1, 0, none⟩ = some (.bool ng) ∧ w'.cell? ⟨w.heap.size + 1, 1, none⟩ = some (.bool true) ∧ w'.cell? ⟨w.heap.size + 1, 2, none⟩ = some (.string ⟨wh.toArray⟩) ∧ w'.cell? ⟨w.heap.size + 1, 3, none⟩ = some (.string ⟨pt.toArray⟩) ∧ w'.cell? ⟨w.heap.size + 1, 4, none⟩ = some (.bool pn) ∧ w'.cell? ⟨w.heap.size + 1, 5, none⟩ = some (.string ⟨ds.toArray⟩)) (go_keep) (first
      | (go_at_call 138; refine (hNat' _).mono ?_; rintro e w3 ⟨v, rfl, hv, k3⟩; have K3 : Hid (Keep wA w3) := (Keep.refl wA).drew.trans k3; have HV : Hid (Lv w3 v S 2001) := hv; clear hv k3; obtain ⟨hf, hsp⟩ := HFA.out _ K3.out; obtain ⟨f0, f1, f2⟩ := hf.cells; obtain ⟨t0, t1, t2, t3, t4, t5⟩ := hsp.six; clear hf hsp)
      | (go_at_call 139; refine (hBP' _).mono ?_; rintro e w4 ⟨u, rfl, hu, k4⟩; have K4 : Hid (Keep wA w4) := K3.out.trans k4; have HV4 : Hid (Lv w4 v S 2001) := HV.out.keep k4; have HU : Hid (Lv w4 u (2 ^ n) 2001) := hu; clear hu k4; obtain ⟨hf, hsp⟩ := HFA.out _ K4.out; obtain ⟨f0, f1, f2⟩ := hf.cells; obtain ⟨t0, t1, t2, t3, t4, t5⟩ := hsp.six; clear hf hsp)
      | (go_at_call 108; refine (hMu v u _ HV4.out HU.out).mono ?_; rintro e w5 ⟨z, rfl, hz, k5⟩; have K5 : Hid (Keep wA w5) := K4.out.trans k5; have HZ5 : Hid (Lv w5 z (S * 2 ^ n) K2) := hz; clear hz k5; obtain ⟨hf, hsp⟩ := HFA.out _ K5.out; obtain ⟨f0, f1, f2⟩ := hf.cells; obtain ⟨t0, t1, t2, t3, t4, t5⟩ := hsp.six; clear hf hsp)
      | (go_at_call 69; refine (hFr _).mono ?_; rintro e w6 ⟨y, rfl, hy, k6⟩; have K6 : Hid (Keep wA w6) := K5.out.trans k6; have HZ6 : Hid (Lv w6 z (S * 2 ^ n) K2) := HZ5.out.keep k6; have HY : Hid (Lv w6 y 1 K2) := hy.more hK22.out; clear hy k6; obtain ⟨hf, hsp⟩ := HFA.out _ K6.out; obtain ⟨f0, f1, f2⟩ := hf.cells; obtain ⟨t0, t1, t2, t3, t4, t5⟩ := hsp.six; clear hf hsp)
      | (go_at_call 71; refine (hNr2 z y (S * 2 ^ n) 1 _ HZ6.out HY.out (Nat.mul_pos S0.out (Nat.pow_pos (by omega))) (by omega)).mono ?_; rintro e w7 ⟨x, rfl, hx, k7⟩; have K7 : Hid (Keep wA w7) := K6.out.trans k7; have HX : Hid (∀ E, IsE (S * 2 ^ n) 1 E → x = wb (Nr.rup (sA (S * 2 ^ n) E) (sB 1 E)) E) := hx; clear hx k7; obtain ⟨hf, hsp⟩ := HFA.out _ K7.out; obtain ⟨f0, f1, f2⟩ := hf.cells; obtain ⟨t0, t1, t2, t3, t4, t5⟩ := hsp.six; clear hf hsp))
    go_simp
    go_wp2_with fail
    go_ret
    refine ⟨x, rfl, Fin.out x ?_, HKA.out.trans K7.out⟩
    rw [HM.out.1, HM.out.2, Nat.pow_zero]
    have := Nat.mul_pos S0.out (Nat.pow_pos (n := n) (show 0 < 2 by omega))
    exact ⟨fun h => by omega, fun _ => HX.out⟩
end Go.Proofs.YtpdjpjkieafnbaaGreatDoor.Li.Nw
set_option linter.unusedVariables false
set_option linter.unusedSimpArgs false
namespace Go.Proofs.YtpdjpjkieafnbaaGreatDoor.Li
open Go.RowKit Lb
/-- How many bytes two texts have in common at their beginnings. -/
def alk : List UInt8 → List UInt8 → Nat
  | a :: s, b :: t => if a = b then alk s t + 1 else 0
  | _, _ => 0
theorem alk_at (s t : List UInt8) (i : Nat) (h1 : i < s.length) (h2 : i < t.length) : alk (s.drop i) (t.drop i) = if s.getD i 0 = t.getD i 0 then alk (s.drop (i + 1)) (t.drop (i + 1)) + 1 else 0 := by
  rw [List.drop_eq_getElem_cons h1, List.drop_eq_getElem_cons h2]
  simp only [alk, List.getD, List.getElem?_eq_getElem h1, List.getElem?_eq_getElem h2, Option.getD_some]
theorem alk_nil (s t : List UInt8) (i : Nat) (h : s.length ≤ i ∨ t.length ≤ i) : alk (s.drop i) (t.drop i) = 0 := by
  rcases h with h | h
  · rw [List.drop_eq_nil_of_le h]; rfl
  · rw [List.drop_eq_nil_of_le h]
    cases s.drop i <;> rfl
theorem alk_le (s t : List UInt8) : alk s t ≤ s.length ∧ alk s t ≤ t.length := by
  induction s generalizing t with
  | nil => simp [alk]
  | cons a s ih =>
    cases t with
    | nil => simp [alk]
    | cons b t =>
      have := ih t
      simp only [alk, List.length_cons]
      split <;> omega
set_option maxRecDepth 100000 in
set_option maxHeartbeats 1000000 in
theorem alike_any (s t : List UInt8) (w : World) (hs : s.length ≤ 100000) (ht : t.length ≤ 100000) :
    Calls Tryz.prog 89 #[.string ⟨s.toArray⟩, .string ⟨t.toArray⟩] w fun e w' => e = .returned (.int .i64 (alk s t : Nat)) ∧ Keep w w' := by
  have z1 : (ByteArray.mk s.toArray).size = s.length := sz_mk s
  have z2 : (ByteArray.mk t.toArray).size = t.length := sz_mk t
  go_enter Tryz.func89, Tryz.ntmps89
  go_wp2_with fail
  go_loopw [5] (fun v5 wr => ∃ i : Nat, i ≤ s.length ∧ i ≤ t.length ∧ v5 = .int .i64 (i : Int) ∧ Hid (alk (s.drop i) (t.drop i) + i = alk s t) ∧ Keep w wr) (fun v5 _ => s.length - (intOf v5).toNat)
  case atStart => exact ⟨0, Nat.zero_le _, Nat.zero_le _, rfl, by unfold Hid; simp, Keep.refl _⟩
  case round =>
    obtain ⟨i, h1, h2, rfl, ha, kr⟩ := hrel
    by_cases c1 : i < s.length
    · have d1 : decide ((i : Int) < (s.length : Int)) = true := decide_eq_true (by omega)
      by_cases c2 : i < t.length
      · have d2 : decide ((i : Int) < (t.length : Int)) = true := decide_eq_true (by omega)
        have x1 := fun wx => run_ix s i c1 wx
        have x2 := fun wx => run_ix t i c2 wx
        have hst := alk_at s t i c1 c2
        by_cases c3 : s.getD i 0 = t.getD i 0
        · rw [if_pos c3] at hst
          rw [← c3] at x2
          have H2 : Hid (alk (s.drop (i + 1)) (t.drop (i + 1)) + (i + 1) = alk s t) := by
            have := ha.out
            unfold Hid
            omega
          obtain ⟨b, hb⟩ : ∃ b, (s.getD i 0).toNat = b := ⟨_, rfl⟩
          rw [hb] at x1 x2
          have d3 : ((b : Int) == (b : Int)) = true := by simp
          clear hst ha c3 hb
          go_wp2_with fail
          go_quiet (fail)
          go_wp2_with fail
          go_roundw
          case rel => exact ⟨i + 1, by omega, by omega, by go_num, H2, by first | exact kr | exact kr.drewN _ | exact kr.drew⟩
          case measure => simp [intOf]; omega
        · rw [if_neg c3] at hst
          have H2 : Hid (i = alk s t) := by
            have := ha.out
            unfold Hid
            omega
          obtain ⟨b, hb⟩ : ∃ b, (s.getD i 0).toNat = b := ⟨_, rfl⟩
          obtain ⟨c, hc⟩ : ∃ c, (t.getD i 0).toNat = c := ⟨_, rfl⟩
          have d3 : ((b : Int) == (c : Int)) = false := by
            rw [beq_eq_false_iff_ne]
            intro q
            apply c3
            apply UInt8.toNat_inj.1
            omega
          rw [hb] at x1
          rw [hc] at x2
          clear hst ha c3 hb hc
          go_wp2_with fail
          go_quiet (fail)
          go_wp2_with fail
          go_ret
          exact ⟨by rw [← H2.out]; rfl, by first | exact kr | exact kr.drewN _ | exact kr.drew⟩
      · have d2 : decide ((i : Int) < (t.length : Int)) = false := decide_eq_false (by omega)
        have H2 : Hid (i = alk s t) := by
          have := ha.out
          rw [alk_nil s t i (.inr (by omega))] at this
          unfold Hid
          omega
        clear ha
        go_wp2_with fail
        go_quiet (fail)
        go_wp2_with fail
        go_ret
        exact ⟨by rw [← H2.out]; rfl, by first | exact kr | exact kr.drewN _ | exact kr.drew⟩
    · have d1 : decide ((i : Int) < (s.length : Int)) = false := decide_eq_false (by omega)
      have H2 : Hid (i = alk s t) := by
        have := ha.out
        rw [alk_nil s t i (.inl (by omega))] at this
        unfold Hid
        omega
      clear ha
      go_wp2_with fail
      go_quiet (fail)
      go_wp2_with fail
      go_ret
      exact ⟨by rw [← H2.out]; rfl, by first | exact kr | exact kr.drewN _ | exact kr.drew⟩
end Go.Proofs.YtpdjpjkieafnbaaGreatDoor.Li
