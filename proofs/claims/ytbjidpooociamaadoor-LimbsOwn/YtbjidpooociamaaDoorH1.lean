import Derived.Test.YtbjidpooociamaaDoorF4
import Derived.Test.YtbjidpooociamaaDoorH0
set_option linter.unusedVariables false
set_option linter.unusedSimpArgs false
namespace Go.Proofs.YtbjidpooociamaaDoor
open Go.RowKit Lb
theorem comb_step (rk la lb : List Nat) (k f g y z : Nat) (c : Int) (hk : k < rk.length) (hy : la.getD k 0 = y) (hz : lb.getD k 0 = z)
    (h : (val (rk.take k) : Int) + c * (4294967296 ^ k : Nat) = f * (val (la.take k) : Int) - g * (val (lb.take k) : Int)) (x : Nat) (c' : Int) (hx : c + (y : Int) * f - (z : Int) * g = x + 4294967296 * c') :
    (val ((rk.set k x).take (k + 1)) : Int) + c' * (4294967296 ^ (k + 1) : Nat) = f * (val (la.take (k + 1)) : Int) - g * (val (lb.take (k + 1)) : Int) := by
  have e1 : (rk.set k x).getD k 0 = x := by simp [List.getD, hk]
  have e2 : (rk.set k x).take k = rk.take k := by rw [List.take_set_of_le (Nat.le_refl k)]
  rw [val_take_succ, val_take_succ, val_take_succ, e1, e2, hy, hz, Nat.pow_succ]
  simp only [Int.natCast_add, Int.natCast_mul] at h ⊢
  generalize ((4294967296 ^ k : Nat) : Int) = P at *
  generalize (val (rk.take k) : Int) = A at *
  generalize (val (la.take k) : Int) = B at *
  generalize (val (lb.take k) : Int) = C at *
  have hc : c = x + 4294967296 * c' - y * f + z * g := by omega
  subst hc
  grind
theorem comb_end (v R P : Nat) (c : Int) (hv : v < P) (hR : R < P) (h : (v : Int) + c * (P : Nat) = R) : v = R := by
  rcases Int.lt_trichotomy c 0 with hc | hc | hc
  · have : c * (P : Int) ≤ -1 * (P : Int) := Int.mul_le_mul_of_nonneg_right (by omega) (by omega)
    omega
  · subst hc; omega
  · have : 1 * (P : Int) ≤ c * (P : Int) := Int.mul_le_mul_of_nonneg_right (by omega) (by omega)
    omega
set_option maxRecDepth 100000 in
set_option maxHeartbeats 1600000 in
theorem combined_any (a b : Option Addr) (ca cb f g : Nat) (la lb : List Nat) (w : World) (hla : la.length ≤ 70368744177664) (hlb : lb.length ≤ 70368744177664) (hra : Rd w a la) (hrb : Rd w b lb) (hma : Lim la) (hmb : Lim lb) (hf : f < 1073741824) (hg : g < 1073741824)
    (R : Nat) (hR : (f : Int) * (val la : Int) - (g : Int) * (val lb : Int) = R) (hfit : R < 4294967296 ^ (max la.length lb.length)) :
    Calls Tryd.prog 123 #[.slice a la.length ca, .int .u64 (f : Nat), .slice b lb.length cb, .int .u64 (g : Nat)] w fun e w' => ∃ v, e = .returned v ∧ NatR w.heap.size w' v R ∧ Keep w w' := by
  obtain ⟨n, hn⟩ : ∃ n, max la.length lb.length = n := ⟨_, rfl⟩
  have hni : max (la.length : Int) (lb.length : Int) = (n : Int) := by omega
  have hnA : la.length ≤ n := by omega
  have hnB : lb.length ≤ n := by omega
  have hnC : n ≤ la.length ∨ n ≤ lb.length := by omega
  have hnb : n ≤ 70368744177664 := by omega
  have HR : Hid ((f : Int) * (val la : Int) - (g : Int) * (val lb : Int) = R) := hR
  rw [hn] at hfit
  clear hn hR
  go_enter Tryd.func123, Tryd.ntmps123
  go_wp2_with (at_make; refine wpList_make32 _ rfl _ _ rfl _ _ _ _ n rfl rfl rfl rfl hnb ?_; intro w1 hrow hk1 hsz1)
  clear hni
  go_loopw [10, 20] (fun cv i wr => ∃ (k : Nat) (c : Int) (rk : List Nat), k ≤ n ∧ (-1073741824 ≤ c ∧ c ≤ 1073741824) ∧ i = .int .i64 k ∧ cv = .int .i64 c ∧ Row wr w.heap.size rk ∧ Hid (rk.length = n) ∧ Lim rk ∧ Hid ((val (rk.take k) : Int) + c * (4294967296 ^ k : Nat) = f * (val (la.take k) : Int) - g * (val (lb.take k) : Int)) ∧ Keep w wr) (fun _ i _ => n - (intOf i).toNat)
  case atStart => exact ⟨0, 0, _, by omega, by omega, rfl, rfl, hrow, by show _ = _; simp, by intro x hx; simp at hx; omega, by show _ = _; simp [val], hk1⟩
  case round =>
    obtain ⟨k, c, rk, hk, hcb, rfl, rfl, hrk, hlen, hmk, hv, hkp⟩ := hrel
    by_cases hkl : k < n
    · obtain ⟨y, hy⟩ : ∃ y, la.getD k 0 = y := ⟨_, rfl⟩
      obtain ⟨z, hz⟩ : ∃ z, lb.getD k 0 = z := ⟨_, rfl⟩
      have hyl : y < 4294967296 := hy ▸ Lim_getD hma _
      have hzl : z < 4294967296 := hz ▸ Lim_getD hmb _
      have Hy : Hid (la.getD k 0 = y) := hy
      have Hz : Hid (lb.getD k 0 = z) := hz
      have q1 : y * f ≤ 4294967295 * 1073741823 := Nat.mul_le_mul (by omega) (by omega)
      have q2 : z * g ≤ 4294967295 * 1073741823 := Nat.mul_le_mul (by omega) (by omega)
      have p1 : (y : Int) * (f : Int) ≤ 4611686013058678785 := by rw [← Int.natCast_mul]; omega
      have p2 : 0 ≤ (y : Int) * (f : Int) := by rw [← Int.natCast_mul]; omega
      have p3 : (z : Int) * (g : Int) ≤ 4611686013058678785 := by rw [← Int.natCast_mul]; omega
      have p4 : 0 ≤ (z : Int) * (g : Int) := by rw [← Int.natCast_mul]; omega
      clear q1 q2
      obtain ⟨u, hu⟩ : ∃ u, rk.getD k 0 = u := ⟨_, rfl⟩
      have hcu := hrk.cell k (by rw [hlen.out]; omega)
      have hfz := hrk.frozen k
      rw [hu] at hcu
      clear hu
      by_cases hkA : k < la.length
      · by_cases hkB : k < lb.length
        · obtain ⟨b1, o1, rfl, hc1⟩ := (hra.keep hkp) k hkA
          rw [hy] at hc1
          obtain ⟨b2, o2, rfl, hc2⟩ := (hrb.keep hkp) k hkB
          rw [hz] at hc2
          clear hy hz
          go_wp2_with fail
          go_roundw
          case rel =>
            refine ⟨k + 1, (c + (y : Int) * f - (z : Int) * g) / 4294967296, rk.set k ((c + (y : Int) * f - (z : Int) * g) % 4294967296).toNat, by omega, by omega, by go_num, by simp, ?_, by show _ = _; rw [List.length_set]; exact hlen.out, Lim_set hmk _ _ (by omega), ?_, hkp.setCell (Nat.le_refl _) _⟩
            · have h1 := hrk.set k ((c + (y : Int) * f - (z : Int) * g) % 4294967296).toNat
              rw [Int.toNat_of_nonneg (by omega)] at h1
              exact h1
            · exact comb_step rk la lb k f g y z c (by rw [hlen.out]; omega) Hy.out Hz.out hv.out _ _ (by omega)
          case measure => simp [intOf]; omega
        · obtain ⟨b1, o1, rfl, hc1⟩ := (hra.keep hkp) k hkA
          rw [hy] at hc1
          have hz0 : z = 0 := by rw [← hz]; exact getD_past lb _ (by omega)
          have hdB : decide ((k : Int) < (lb.length : Int)) = false := by simp; omega
          clear hy hz
          go_wp2_with fail
          go_roundw
          case rel =>
            refine ⟨k + 1, (c + (y : Int) * f) / 4294967296, rk.set k ((c + (y : Int) * f) % 4294967296).toNat, by omega, by omega, by go_num, by simp, ?_, by show _ = _; rw [List.length_set]; exact hlen.out, Lim_set hmk _ _ (by omega), ?_, hkp.setCell (Nat.le_refl _) _⟩
            · have h1 := hrk.set k ((c + (y : Int) * f) % 4294967296).toNat
              rw [Int.toNat_of_nonneg (by omega)] at h1
              exact h1
            · exact comb_step rk la lb k f g y z c (by rw [hlen.out]; omega) Hy.out Hz.out hv.out _ _ (by rw [hz0]; omega)
          case measure => simp [intOf]; omega
      · have hkB : k < lb.length := by omega
        have hy0 : y = 0 := by rw [← hy]; exact getD_past la _ (by omega)
        have hdA : decide ((k : Int) < (la.length : Int)) = false := by simp; omega
        obtain ⟨b2, o2, rfl, hc2⟩ := (hrb.keep hkp) k hkB
        rw [hz] at hc2
        clear hy hz
        go_wp2_with fail
        go_roundw
        case rel =>
          refine ⟨k + 1, (c - (z : Int) * g) / 4294967296, rk.set k ((c - (z : Int) * g) % 4294967296).toNat, by omega, by omega, by go_num, by simp, ?_, by show _ = _; rw [List.length_set]; exact hlen.out, Lim_set hmk _ _ (by omega), ?_, hkp.setCell (Nat.le_refl _) _⟩
          · have h1 := hrk.set k ((c - (z : Int) * g) % 4294967296).toNat
            rw [Int.toNat_of_nonneg (by omega)] at h1
            exact h1
          · exact comb_step rk la lb k f g y z c (by rw [hlen.out]; omega) Hy.out Hz.out hv.out _ _ (by rw [hy0]; omega)
        case measure => simp [intOf]; omega
    · have hke : k = n := by omega
      have hT := trim_any (some ⟨w.heap.size, 0, none⟩) n rk wr (by have := hlen.out; omega) (by have := hlen.out; omega) hrk.rd0
      rw [hlen.out] at hT
      go_wp2_with fail
      refine hT.mono ?_
      rintro e w2 ⟨rfl, rfl⟩
      go_wp2_with fail
      go_ret
      have h3 := NatR.of_trim (hrk.res (B := w.heap.size) (Nat.le_refl _)) hmk
      rw [hlen.out] at h3
      refine ⟨_, rfl, ?_, hkp⟩
      have h4 := hv.out
      rw [hke, List.take_of_length_le (by rw [hlen.out]; omega), List.take_of_length_le (by omega), List.take_of_length_le (by omega), HR.out] at h4
      have h5 := val_lt hmk
      rw [hlen.out] at h5
      have h6 : val rk = R := comb_end _ _ _ c h5 hfit h4
      rw [h6] at h3
      exact h3
end Go.Proofs.YtbjidpooociamaaDoor
