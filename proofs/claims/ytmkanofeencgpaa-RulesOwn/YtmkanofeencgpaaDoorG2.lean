import Derived.Test.YtmkanofeencgpaaDoorE1
import Derived.Test.YtmkanofeencgpaaDoorLC10
set_option linter.unusedVariables false
set_option linter.unusedSimpArgs false
namespace Go.Proofs.YtmkanofeencgpaaDoor
open Go.RowKit Go.Shelf
attribute [local go_sem] run_store_func run_store_float
theorem amount_neg (v : Int) (h : v < 0) (hb : -9223372036854775808 ≤ v) : IntKind.u64.wrap (-(IntKind.u64.wrap v)) = (v.natAbs : Int) := by
  rw [IntKind.wrap_u64, IntKind.wrap_u64]
  omega
theorem amount_any (v : Int) (hv : -9223372036854775808 ≤ v ∧ v ≤ 9223372036854775807) (w : World) : Calls Tryd.prog 37 #[.int .i64 v] w fun e w' => e = .returned (.int .u64 (v.natAbs : Nat)) ∧ w' = w := by
  by_cases h : v < 0
  · have h1 := amount_neg v h hv.1
    go_enter Tryd.func37, Tryd.ntmps37
    go_wp2
    go_ret
    exact ⟨rfl, rfl⟩
  · have h1 : IntKind.u64.wrap v = (v.natAbs : Int) := by rw [IntKind.wrap_u64]; omega
    go_enter Tryd.func37, Tryd.ntmps37
    go_wp2
    go_ret
    exact ⟨rfl, rfl⟩
theorem ramount_any (v : Int) (hv : -9223372036854775808 ≤ v ∧ v ≤ 9223372036854775807) (w : World) : Calls Tryd.prog 39 #[.int .i64 v] w fun e w' => e = .returned (.int .u64 (v.natAbs : Nat)) ∧ w' = w := by
  by_cases h : v < 0
  · have h1 := amount_neg v h hv.1
    go_enter Tryd.func39, Tryd.ntmps39
    go_wp2
    go_ret
    exact ⟨rfl, rfl⟩
  · have h1 : IntKind.u64.wrap v = (v.natAbs : Int) := by rw [IntKind.wrap_u64]; omega
    go_enter Tryd.func39, Tryd.ntmps39
    go_wp2
    go_ret
    exact ⟨rfl, rfl⟩
/-- The greatest amount of the leaves. -/
def lgF (L : List Nd) : Nat → Nat → Nat → Nat
  | 0, _, m => m
  | f + 1, k, m => lgF L f (k + 1) (if kdB (L.getD k nd0) 1 = true ∧ m < (L.getD k nd0).vl.natAbs then (L.getD k nd0).vl.natAbs else m)
def lg (L : List Nd) : Nat := lgF L L.length 0 0
set_option maxRecDepth 100000 in
set_option maxHeartbeats 1000000 in
theorem Largest_any (out : Int) (na : Option Addr) (nc : Nat) (L : List Nd) (w : World) (hL : L.length ≤ 1759218604441) (hr : RdN w na L) :
    Calls Tryd.prog 17 #[.agg #[.int .i64 out, .slice na L.length nc]] w fun e w' => e = .returned (.int .u64 (lg L : Nat)) ∧ lg L ≤ 9223372036854775808 ∧ Keep w w' := by
  obtain ⟨w1, hw1, k1, t1, s1⟩ := boxed w #[.int .i64 out, .slice na L.length nc] 43
  obtain ⟨c0, c1, -, -⟩ := cells2 t1
  have HL : Hid (lg L = lgF L L.length 0 0) := rfl
  generalize lg L = G at HL ⊢
  go_enter Tryd.func17, Tryd.ntmps17
  go_wp2_with (rw [hw1])
  clear c0 c1
  go_loopw [3, 9] (fun v i wr => ∃ k m : Nat, v = .int .u64 (m : Int) ∧ i = .int .i64 (k : Int) ∧ k ≤ L.length ∧ m ≤ 9223372036854775808 ∧ Hid (G = lgF L (L.length - k) k m) ∧ Keep w wr) (fun v i wr => L.length - (intOf i).toNat)
  case atStart => exact ⟨0, 0, rfl, rfl, by omega, by omega, HL, k1⟩
  case round =>
    obtain ⟨k, m, rfl, rfl, hk, hm, H, kr⟩ := hrel
    by_cases hlt : k < L.length
    · have hltc : (k : Int) < (L.length : Int) := by omega
      obtain ⟨b, o, ca, cap, rfl, hA⟩ := (hr.keep kr) k hlt
      have H1 : Hid (lgF L (L.length - k) k m = lgF L (L.length - (k + 1)) (k + 1) (if kdB (L.getD k nd0) 1 = true ∧ m < (L.getD k nd0).vl.natAbs then (L.getD k nd0).vl.natAbs else m)) := by
        rw [show L.length - k = (L.length - (k + 1)) + 1 by omega, lgF]; rfl
      have HK : Hid (k < L.length) := hlt
      clear hlt
      generalize L.getD k nd0 = n at hA H1
      obtain ⟨a0, a1, a2, a3, a4, a5, a6, a7, hrd, hcp, hsz, hok⟩ := hA
      obtain ⟨w3, hw3, k3, t3, s3⟩ := boxed wr (nvs n ca cap) 77
      obtain ⟨d0, d1, -⟩ := cells8 t3
      have hAm := amount_any n.vl hok.vl w3
      have hab : n.vl.natAbs ≤ 9223372036854775808 := by have := hok.vl; omega
      have e1 : ((n.kd : Int) == 1) = kdB n 1 := kd_int n 1
      generalize n.vl.natAbs = z at hAm H1 hab
      clear hok
      cases h1 : kdB n 1 with
      | false =>
        rw [h1] at e1 H1
        clear h1
        go_wp2_with fail
        go_roundw
        case rel => exact ⟨k + 1, m, rfl, by go_num, by have := HK.out; omega, hm, by unfold Hid; rw [H.out, H1.out, if_neg (by simp)], kr.trans k3⟩
        case measure => have := HK.out; simp [intOf]; omega
      | true =>
        rw [h1] at e1 H1
        clear h1
        by_cases hmz : m < z
        · have hmx : max (m : Int) (z : Int) = (z : Int) := by omega
          go_wp2_with (go_at_call 37; refine hAm.mono ?_; rintro e w0 ⟨rfl, rfl⟩)
          go_roundw
          case rel => exact ⟨k + 1, z, rfl, by go_num, by have := HK.out; omega, hab, by unfold Hid; rw [H.out, H1.out, if_pos ⟨trivial, hmz⟩], kr.trans k3⟩
          case measure => have := HK.out; simp [intOf]; omega
        · have hmx : max (m : Int) (z : Int) = (m : Int) := by omega
          go_wp2_with (go_at_call 37; refine hAm.mono ?_; rintro e w0 ⟨rfl, rfl⟩)
          go_roundw
          case rel => exact ⟨k + 1, m, rfl, by go_num, by have := HK.out; omega, hm, by unfold Hid; rw [H.out, H1.out, if_neg (fun h => hmz h.2)], kr.trans k3⟩
          case measure => have := HK.out; simp [intOf]; omega
    · have hltc : ¬ (k : Int) < (L.length : Int) := by omega
      have H1 : Hid (G = m) := by unfold Hid; rw [H.out, show L.length - k = 0 by omega]; rfl
      clear hlt
      go_wp2_with fail
      go_ret
      exact ⟨by rw [H1.out]; rfl, by rw [H1.out]; exact hm, kr⟩
set_option maxRecDepth 100000 in
set_option maxHeartbeats 1000000 in
theorem rLargest_any (out : Int) (na : Option Addr) (nc : Nat) (L : List Nd) (w : World) (hL : L.length ≤ 1759218604441) (hr : RdN w na L) :
    Calls Tryd.prog 18 #[.agg #[.int .i64 out, .slice na L.length nc]] w fun e w' => e = .returned (.int .u64 (lg L : Nat)) ∧ lg L ≤ 9223372036854775808 ∧ Keep w w' := by
  obtain ⟨w1, hw1, k1, t1, s1⟩ := boxed w #[.int .i64 out, .slice na L.length nc] 43
  have HL : Hid (lg L = lgF L L.length 0 0) := rfl
  generalize lg L = G at HL ⊢
  go_enter Tryd.func18, Tryd.ntmps18
  go_wp2_with (rw [hw1])
  go_loopw [3, 4] (fun v i wr => ∃ k m : Nat, v = .int .u64 (m : Int) ∧ i = .int .i64 (k : Int) ∧ k ≤ L.length ∧ m ≤ 9223372036854775808 ∧ Hid (G = lgF L (L.length - k) k m) ∧ Keep w1 wr) (fun v i wr => L.length - (intOf i).toNat)
  case atStart => exact ⟨0, 0, rfl, rfl, by omega, by omega, HL, Keep.refl _⟩
  case round =>
    obtain ⟨k, m, rfl, rfl, hk, hm, H, kr⟩ := hrel
    obtain ⟨c0, c1, -, -⟩ := cells2 (kr.at t1)
    by_cases hlt : k < L.length
    · have hltc : (k : Int) < (L.length : Int) := by omega
      obtain ⟨b, o, ca, cap, rfl, hA⟩ := (hr.keep (k1.trans kr)) k hlt
      have H1 : Hid (lgF L (L.length - k) k m = lgF L (L.length - (k + 1)) (k + 1) (if kdB (L.getD k nd0) 1 = true ∧ m < (L.getD k nd0).vl.natAbs then (L.getD k nd0).vl.natAbs else m)) := by
        rw [show L.length - k = (L.length - (k + 1)) + 1 by omega, lgF]; rfl
      have HK : Hid (k < L.length) := hlt
      clear hlt
      generalize L.getD k nd0 = n at hA H1
      obtain ⟨a0, a1, a2, a3, a4, a5, a6, a7, hrd, hcp, hsz, hok⟩ := hA
      have hAm := ramount_any n.vl hok.vl wr
      have hab : n.vl.natAbs ≤ 9223372036854775808 := by have := hok.vl; omega
      have e1 : ((n.kd : Int) == 1) = kdB n 1 := kd_int n 1
      generalize n.vl.natAbs = z at hAm H1 hab
      clear hok
      cases h1 : kdB n 1 with
      | false =>
        rw [h1] at e1 H1
        clear h1
        go_wp2_with (go_at_call 39; refine hAm.mono ?_; rintro e w0 ⟨rfl, rfl⟩)
        go_roundw
        case rel => exact ⟨k + 1, m, rfl, by go_num, by have := HK.out; omega, hm, by unfold Hid; rw [H.out, H1.out, if_neg (by simp)], kr⟩
        case measure => have := HK.out; simp [intOf]; omega
      | true =>
        rw [h1] at e1 H1
        clear h1
        by_cases hmz : m < z
        · have hmc : decide ((m : Int) < (z : Int)) = true := decide_eq_true (by omega)
          have HM : Hid (m < z) := hmz
          clear hmz
          go_wp2_with (go_at_call 39; refine hAm.mono ?_; rintro e w0 ⟨rfl, rfl⟩)
          go_roundw
          case rel => exact ⟨k + 1, z, rfl, by go_num, by have := HK.out; omega, hab, by unfold Hid; rw [H.out, H1.out, if_pos ⟨trivial, HM.out⟩], kr⟩
          case measure => have := HK.out; simp [intOf]; omega
        · have hmc : decide ((m : Int) < (z : Int)) = false := decide_eq_false (by omega)
          have HM : Hid (¬ m < z) := hmz
          clear hmz
          go_wp2_with (go_at_call 39; refine hAm.mono ?_; rintro e w0 ⟨rfl, rfl⟩)
          go_roundw
          case rel => exact ⟨k + 1, m, rfl, by go_num, by have := HK.out; omega, hm, by unfold Hid; rw [H.out, H1.out, if_neg (fun h => HM.out h.2)], kr⟩
          case measure => have := HK.out; simp [intOf]; omega
    · have hltc : ¬ (k : Int) < (L.length : Int) := by omega
      have H1 : Hid (G = m) := by unfold Hid; rw [H.out, show L.length - k = 0 by omega]; rfl
      clear hlt
      go_wp2_with fail
      go_ret
      exact ⟨by rw [H1.out]; rfl, by rw [H1.out]; exact hm, k1.trans kr⟩
end Go.Proofs.YtmkanofeencgpaaDoor
set_option linter.unusedVariables false
set_option linter.unusedSimpArgs false
namespace Go.Proofs.YtmkanofeencgpaaDoor
open Go.RowKit Go.Shelf
attribute [local go_sem] run_store_func run_store_float
/-- A natural as a value, normal. -/
def NatV (w : World) (v : Value) (n : Nat) : Prop := ∃ a c l, v = .slice a l.length c ∧ l.length ≤ c ∧ Li.Rd w a l ∧ Lb.Lim l ∧ Lb.Nrm l ∧ Lb.val l = n
theorem NatV.keep {w w' : World} {v : Value} {n : Nat} (h : NatV w v n) (k : Keep w w') : NatV w' v n := by
  obtain ⟨a, c, l, h1, h2, h3, h4⟩ := h
  exact ⟨a, c, l, h1, h2, h3.keep k, h4⟩
theorem nat_len {l : List Nat} (h : Lb.Nrm l) (hv : Lb.val l < 340282366920938463463374607431768211456) : l.length ≤ 4 := by
  by_cases h5 : l.length ≤ 4
  · exact h5
  · have h1 := Lb.val_ge h (by intro e; rw [e] at h5; simp at h5)
    have h2 : 4294967296 ^ 4 ≤ 4294967296 ^ (l.length - 1) := Nat.pow_le_pow_right (by omega) (by omega)
    have h3 : (4294967296 : Nat) ^ 4 = 340282366920938463463374607431768211456 := by decide
    omega
theorem From_nv (n : Nat) (w : World) (hn : n < 18446744073709551616) : Calls Tryd.prog 36 #[.int .u64 (n : Nat)] w fun e w' => ∃ v, e = .returned v ∧ NatV w' v n ∧ Keep w w' := by
  refine (Li.From_any n w hn).mono ?_
  rintro e w' ⟨v, l, rfl, hR, h1, h2, h3, k⟩
  obtain ⟨a, c, e, hc, hr⟩ := hR.shape
  exact ⟨v, rfl, ⟨a, c, l, e, hc, hr, h1, h2, h3⟩, k⟩
theorem rFrom_nv (n : Nat) (w : World) (hn : n < 18446744073709551616) : Calls Tryd.prog 28 #[.int .u64 (n : Nat)] w fun e w' => ∃ v, e = .returned v ∧ NatV w' v n ∧ Keep w w' := by
  refine (Li.rFrom_any n w hn).mono ?_
  rintro e w' ⟨v, l, rfl, hR, h1, h2, h3, k⟩
  obtain ⟨a, c, e, hc, hr⟩ := hR.shape
  exact ⟨v, rfl, ⟨a, c, l, e, hc, hr, h1, h2, h3⟩, k⟩
theorem Add_nv (x y : Nat) (vx vy : Value) (w : World) (hx : NatV w vx x) (hy : NatV w vy y) (hbx : x < 340282366920938463463374607431768211456) (hby : y < 340282366920938463463374607431768211456) : Calls Tryd.prog 38 #[vx, vy] w fun e w' => ∃ v, e = .returned v ∧ NatV w' v (x + y) ∧ Keep w w' := by
  obtain ⟨a, c, l, rfl, h1, h2, h3, h4, rfl⟩ := hx
  obtain ⟨a', c', l', rfl, h1', h2', h3', h4', rfl⟩ := hy
  have q1 := nat_len h4 hbx
  have q2 := nat_len h4' hby
  refine (Li.Add_any a a' c c' l l' w h1 h1' (by omega) (by omega) h2 h2' h3 h3').mono ?_
  rintro e w' ⟨v, rfl, ⟨m, hR, m1, m2, m3⟩, k⟩
  obtain ⟨b, d, e, hc, hr⟩ := hR.shape
  exact ⟨v, rfl, ⟨b, d, m, e, hc, hr, m1, m2, m3⟩, k⟩
theorem nrm_take {l : List Nat} (h : Lb.Nrm l) (hl : Lb.Lim l) : l.take (Lb.nl l) = l := by
  exact Lb.val_inj (Lb.Lim_take hl _) hl (Lb.Nrm_take l) h (Lb.val_take_nl l)
theorem Cmp_nv (x y : Nat) (vx vy : Value) (w : World) (hx : NatV w vx x) (hy : NatV w vy y) (hbx : x < 340282366920938463463374607431768211456) (hby : y < 340282366920938463463374607431768211456) : Calls Tryd.prog 66 #[vx, vy] w fun e w' => (∃ c : Int, e = .returned (.int .i64 c) ∧ (c < 0 ↔ x < y)) ∧ Keep w w' := by
  obtain ⟨a, c, l, rfl, h1, h2, h3, h4, rfl⟩ := hx
  obtain ⟨a', c', l', rfl, h1', h2', h3', h4', rfl⟩ := hy
  have q1 := nat_len h4 hbx
  have q2 := nat_len h4' hby
  refine (Li.Cmp_any a a' c c' l l' w h1 h1' (by omega) (by omega) h2 h2').mono ?_
  rintro e w' ⟨rfl, k⟩
  refine ⟨⟨_, rfl, ?_⟩, k.keep⟩
  rw [nrm_take h4 h3, nrm_take h4' h3']
  by_cases h : Lb.val l < Lb.val l'
  · rw [Li.cmpL_lt h3 h3' h4 h4' h]; exact ⟨fun _ => h, fun _ => by decide⟩
  · have := Li.cmpL_ge h3 h3' h4 h4' h; exact ⟨fun q => by omega, fun q => absurd q h⟩
theorem rCmp_nv (x y : Nat) (vx vy : Value) (w : World) (hx : NatV w vx x) (hy : NatV w vy y) (hbx : x < 340282366920938463463374607431768211456) (hby : y < 340282366920938463463374607431768211456) : Calls Tryd.prog 29 #[vx, vy] w fun e w' => (∃ c : Int, e = .returned (.int .i64 c) ∧ (c < 0 ↔ x < y)) ∧ Keep w w' := by
  obtain ⟨a, c, l, rfl, h1, h2, h3, h4, rfl⟩ := hx
  obtain ⟨a', c', l', rfl, h1', h2', h3', h4', rfl⟩ := hy
  have q1 := nat_len h4 hbx
  have q2 := nat_len h4' hby
  refine (Li.rCmp_any a a' c c' l l' w h1 h1' (by omega) (by omega) h2 h2').mono ?_
  rintro e w' ⟨rfl, k⟩
  refine ⟨⟨_, rfl, ?_⟩, k⟩
  rw [nrm_take h4 h3, nrm_take h4' h3']
  by_cases h : Lb.val l < Lb.val l'
  · rw [Li.cmpL_lt h3 h3' h4 h4' h]; exact ⟨fun _ => h, fun _ => by decide⟩
  · have := Li.cmpL_ge h3 h3' h4 h4' h; exact ⟨fun q => by omega, fun q => absurd q h⟩
end Go.Proofs.YtmkanofeencgpaaDoor
