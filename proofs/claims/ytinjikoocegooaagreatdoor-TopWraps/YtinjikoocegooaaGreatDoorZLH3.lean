import Derived.Test.YtinjikoocegooaaGreatDoorProg
import Derived.Test.YtinjikoocegooaaGreatDoorLC10
import Derived.Test.YtinjikoocegooaaGreatDoorShelf
import Derived.Test.YtinjikoocegooaaGreatDoorZLF4
import Derived.Test.YtinjikoocegooaaGreatDoorZLH2
import Derived.Shelf.Small.Bits
import Derived.WalkKit
import Derived.WalkSpells
import Derived.WalkLawsBesides
import Derived.Laws.CopyOwn
import Derived.Deep.Draws
import Derived.Deep.QuietTactic
import Derived.BigQuiet
import Derived.Laws.MathBits
import Derived.Laws.BytesArg
import Derived.Lib.OthersKept
import Derived.Deep.RegionWith
import Derived.WalkMore
import Derived.Deep.LoopGhost
import Derived.Deep.RegionHeld3
set_option linter.unusedVariables false
set_option linter.unusedSimpArgs false
namespace Go.Proofs.YtinjikoocegooaaGreatDoor.Li
open Go.RowKit Lb
theorem comb_step (rk la lb : List Nat) (k f g y z : Nat) (c : Int) (hk : k < rk.length) (hy : la.getD k 0 = y) (hz : lb.getD k 0 = z)
    (h : (val (rk.take k) : Int) + c * (4294967296 ^ k : Nat) = f * (val (la.take k) : Int) - g * (val (lb.take k) : Int)) (x : Nat) (c' : Int) (hx : c + (y : Int) * f - (z : Int) * g = x + 4294967296 * c') :
    (val ((rk.set k x).take (k + 1)) : Int) + c' * (4294967296 ^ (k + 1) : Nat) = f * (val (la.take (k + 1)) : Int) - g * (val (lb.take (k + 1)) : Int) := by
  have e1 : (rk.set k x).getD k 0 = x := by simp [List.getD, hk]
  have e2 : (rk.set k x).take k = rk.take k := by rw [List.take_set_of_le (Nat.le_refl k)]
  rw [val_take_succ, val_take_succ, val_take_succ, e1, e2, hy, hz, Nat.pow_succ]
  simp only [Int.natCast_add, Int.natCast_mul] at h ⊢
  generalize ((4294967296 ^ k : Nat) : Int) = P at *
  generalize (val (rk.take k) : Int) = A at *
  generalize (val (la.take k) : Int) = B at *
  generalize (val (lb.take k) : Int) = C at *
  have hc : c = x + 4294967296 * c' - y * f + z * g := by omega
  subst hc
  grind
theorem comb_end (v R P : Nat) (c : Int) (hv : v < P) (hR : R < P) (h : (v : Int) + c * (P : Nat) = R) : v = R := by
  rcases Int.lt_trichotomy c 0 with hc | hc | hc
  · have : c * (P : Int) ≤ -1 * (P : Int) := Int.mul_le_mul_of_nonneg_right (by omega) (by omega)
    omega
  · subst hc; omega
  · have : 1 * (P : Int) ≤ c * (P : Int) := Int.mul_le_mul_of_nonneg_right (by omega) (by omega)
    omega
set_option maxRecDepth 100000 in
set_option maxHeartbeats 1600000 in
theorem combined_any (a b : Option Addr) (ca cb f g : Nat) (la lb : List Nat) (w : World) (hla : la.length ≤ 70368744177664) (hlb : lb.length ≤ 70368744177664) (hra : Rd w a la) (hrb : Rd w b lb) (hma : Lim la) (hmb : Lim lb) (hf : f < 1073741824) (hg : g < 1073741824)
    (R : Nat) (hR : (f : Int) * (val la : Int) - (g : Int) * (val lb : Int) = R) (hfit : R < 4294967296 ^ (max la.length lb.length)) :
    Calls Tryz.prog 100 #[.slice a la.length ca, .int .u64 (f : Nat), .slice b lb.length cb, .int .u64 (g : Nat)] w fun e w' => ∃ v, e = .returned v ∧ NatR w.heap.size w' v R ∧ Keep w w' := by
  obtain ⟨n, hn⟩ : ∃ n, max la.length lb.length = n := ⟨_, rfl⟩
  have hni : max (la.length : Int) (lb.length : Int) = (n : Int) := by omega
  have hnA : la.length ≤ n := by omega
  have hnB : lb.length ≤ n := by omega
  have hnC : n ≤ la.length ∨ n ≤ lb.length := by omega
  have hnb : n ≤ 70368744177664 := by omega
  have HR : Hid ((f : Int) * (val la : Int) - (g : Int) * (val lb : Int) = R) := hR
  rw [hn] at hfit
  clear hn hR
  go_enter Tryz.func100, Tryz.ntmps100
  go_wp2_with (at_make; refine wpList_make32 _ rfl _ _ rfl _ _ _ _ n rfl rfl rfl rfl hnb ?_; intro w1 hrow hk1 hsz1)
  clear hni
  go_loopw [10, 20] (fun cv i wr => ∃ (k : Nat) (c : Int) (rk : List Nat), k ≤ n ∧ (-1073741824 ≤ c ∧ c ≤ 1073741824) ∧ i = .int .i64 k ∧ cv = .int .i64 c ∧ Row wr w.heap.size rk ∧ Hid (rk.length = n) ∧ Lim rk ∧ Hid ((val (rk.take k) : Int) + c * (4294967296 ^ k : Nat) = f * (val (la.take k) : Int) - g * (val (lb.take k) : Int)) ∧ Keep w wr) (fun _ i _ => n - (intOf i).toNat)
  case atStart => exact ⟨0, 0, _, by omega, by omega, rfl, rfl, hrow, by show _ = _; simp, by intro x hx; simp at hx; omega, by show _ = _; simp [val], hk1⟩
  case round =>
    obtain ⟨k, c, rk, hk, hcb, rfl, rfl, hrk, hlen, hmk, hv, hkp⟩ := hrel
    by_cases hkl : k < n
    · obtain ⟨y, hy⟩ : ∃ y, la.getD k 0 = y := ⟨_, rfl⟩
      obtain ⟨z, hz⟩ : ∃ z, lb.getD k 0 = z := ⟨_, rfl⟩
      have hyl : y < 4294967296 := hy ▸ Lim_getD hma _
      have hzl : z < 4294967296 := hz ▸ Lim_getD hmb _
      have Hy : Hid (la.getD k 0 = y) := hy
      have Hz : Hid (lb.getD k 0 = z) := hz
      have q1 : y * f ≤ 4294967295 * 1073741823 := Nat.mul_le_mul (by omega) (by omega)
      have q2 : z * g ≤ 4294967295 * 1073741823 := Nat.mul_le_mul (by omega) (by omega)
      have p1 : (y : Int) * (f : Int) ≤ 4611686013058678785 := by rw [← Int.natCast_mul]; omega
      have p2 : 0 ≤ (y : Int) * (f : Int) := by rw [← Int.natCast_mul]; omega
      have p3 : (z : Int) * (g : Int) ≤ 4611686013058678785 := by rw [← Int.natCast_mul]; omega
      have p4 : 0 ≤ (z : Int) * (g : Int) := by rw [← Int.natCast_mul]; omega
      clear q1 q2
      obtain ⟨u, hu⟩ : ∃ u, rk.getD k 0 = u := ⟨_, rfl⟩
      have hcu := hrk.cell k (by rw [hlen.out]; omega)
      have hfz := hrk.frozen k
      rw [hu] at hcu
      clear hu
      by_cases hkA : k < la.length
      · by_cases hkB : k < lb.length
        · obtain ⟨b1, o1, rfl, hc1⟩ := (hra.keep hkp) k hkA
          rw [hy] at hc1
          obtain ⟨b2, o2, rfl, hc2⟩ := (hrb.keep hkp) k hkB
          rw [hz] at hc2
          clear hy hz
          go_wp2_with fail
          go_roundw
          case rel =>
            refine ⟨k + 1, (c + (y : Int) * f - (z : Int) * g) / 4294967296, rk.set k ((c + (y : Int) * f - (z : Int) * g) % 4294967296).toNat, by omega, by omega, by go_num, by simp, ?_, by show _ = _; rw [List.length_set]; exact hlen.out, Lim_set hmk _ _ (by omega), ?_, hkp.setCell (Nat.le_refl _) _⟩
            · have h1 := hrk.set k ((c + (y : Int) * f - (z : Int) * g) % 4294967296).toNat
              rw [Int.toNat_of_nonneg (by omega)] at h1
              exact h1
            · exact comb_step rk la lb k f g y z c (by rw [hlen.out]; omega) Hy.out Hz.out hv.out _ _ (by omega)
          case measure => simp [intOf]; omega
        · obtain ⟨b1, o1, rfl, hc1⟩ := (hra.keep hkp) k hkA
          rw [hy] at hc1
          have hz0 : z = 0 := by rw [← hz]; exact getD_past lb _ (by omega)
          have hdB : decide ((k : Int) < (lb.length : Int)) = false := by simp; omega
          clear hy hz
          go_wp2_with fail
          go_roundw
          case rel =>
            refine ⟨k + 1, (c + (y : Int) * f) / 4294967296, rk.set k ((c + (y : Int) * f) % 4294967296).toNat, by omega, by omega, by go_num, by simp, ?_, by show _ = _; rw [List.length_set]; exact hlen.out, Lim_set hmk _ _ (by omega), ?_, hkp.setCell (Nat.le_refl _) _⟩
            · have h1 := hrk.set k ((c + (y : Int) * f) % 4294967296).toNat
              rw [Int.toNat_of_nonneg (by omega)] at h1
              exact h1
            · exact comb_step rk la lb k f g y z c (by rw [hlen.out]; omega) Hy.out Hz.out hv.out _ _ (by rw [hz0]; omega)
          case measure => simp [intOf]; omega
      · have hkB : k < lb.length := by omega
        have hy0 : y = 0 := by rw [← hy]; exact getD_past la _ (by omega)
        have hdA : decide ((k : Int) < (la.length : Int)) = false := by simp; omega
        obtain ⟨b2, o2, rfl, hc2⟩ := (hrb.keep hkp) k hkB
        rw [hz] at hc2
        clear hy hz
        go_wp2_with fail
        go_roundw
        case rel =>
          refine ⟨k + 1, (c - (z : Int) * g) / 4294967296, rk.set k ((c - (z : Int) * g) % 4294967296).toNat, by omega, by omega, by go_num, by simp, ?_, by show _ = _; rw [List.length_set]; exact hlen.out, Lim_set hmk _ _ (by omega), ?_, hkp.setCell (Nat.le_refl _) _⟩
          · have h1 := hrk.set k ((c - (z : Int) * g) % 4294967296).toNat
            rw [Int.toNat_of_nonneg (by omega)] at h1
            exact h1
          · exact comb_step rk la lb k f g y z c (by rw [hlen.out]; omega) Hy.out Hz.out hv.out _ _ (by rw [hy0]; omega)
        case measure => simp [intOf]; omega
    · have hke : k = n := by omega
      have hT := trim_any (some ⟨w.heap.size, 0, none⟩) n rk wr (by have := hlen.out; omega) (by have := hlen.out; omega) hrk.rd0
      rw [hlen.out] at hT
      go_wp2_with fail
      refine hT.mono ?_
      rintro e w2 ⟨rfl, rfl⟩
      go_wp2_with fail
      go_ret
      have h3 := NatR.of_trim (hrk.res (B := w.heap.size) (Nat.le_refl _)) hmk
      rw [hlen.out] at h3
      refine ⟨_, rfl, ?_, hkp⟩
      have h4 := hv.out
      rw [hke, List.take_of_length_le (by rw [hlen.out]; omega), List.take_of_length_le (by omega), List.take_of_length_le (by omega), HR.out] at h4
      have h5 := val_lt hmk
      rw [hlen.out] at h5
      have h6 : val rk = R := comb_end _ _ _ c h5 hfit h4
      rw [h6] at h3
      exact h3
end Go.Proofs.YtinjikoocegooaaGreatDoor.Li
set_option linter.unusedVariables false
set_option linter.unusedSimpArgs false
namespace Go.Proofs.YtinjikoocegooaaGreatDoor.Li
open Go.RowKit Lb
set_option maxRecDepth 100000 in
theorem known_any (u0 u1 d0 d1 : Nat) (odd : Bool) (w : World) :
    Calls Tryz.prog 77 #[.agg #[.int .u64 (u0 : Nat), .int .u64 (u1 : Nat), .int .u64 (d0 : Nat), .int .u64 (d1 : Nat), .bool odd]] w fun e w' => e = .returned (.bool (!((d0 : Int) == 0))) ∧ Keep w w' := by
  go_enter Tryz.func77, Tryz.ntmps77
  go_wp2_with fail
  go_ret
  exact ⟨rfl, (Keep.refl w).alloc _⟩
set_option maxRecDepth 100000 in
set_option maxHeartbeats 800000 in
theorem do_any (u0 u1 d0 d1 : Nat) (odd : Bool) (a b : Option Addr) (ca cb : Nat) (la lb : List Nat) (w : World) (hla : la.length ≤ 70368744177664) (hlb : lb.length ≤ 70368744177664) (hra : Rd w a la) (hrb : Rd w b lb) (hma : Lim la) (hmb : Lim lb)
    (bu0 : u0 < 1073741824) (bd0 : d0 < 1073741824) (bu1 : u1 < 1073741824) (bd1 : d1 < 1073741824) (R1 R2 : Nat) (hR1 : Ri (!odd) u0 d0 (val la) (val lb) = (R1 : Int)) (hR2 : Ri odd u1 d1 (val la) (val lb) = (R2 : Int)) (hR1f : R1 < 4294967296 ^ lb.length) (hR2f : R2 < 4294967296 ^ lb.length) :
    Calls Tryz.prog 78 #[.agg #[.int .u64 (u0 : Nat), .int .u64 (u1 : Nat), .int .u64 (d0 : Nat), .int .u64 (d1 : Nat), .bool odd], .slice a la.length ca, .slice b lb.length cb] w fun e w' => ∃ vx vy, e = .returned (.tuple #[vx, vy]) ∧ NatR w.heap.size w' vx R1 ∧ NatR w.heap.size w' vy R2 ∧ Keep w w' := by
  cases odd
  · have C1 := fun wx (hA : Rd wx a la) (hB : Rd wx b lb) => combined_any a b ca cb u0 d0 la lb wx hla hlb hA hB hma hmb bu0 bd0 R1 (by rw [← hR1]; simp [Ri]) (Nat.lt_of_lt_of_le (hR1f) (Nat.pow_le_pow_right (by omega) (by omega)))
    have C2 := fun wx (hA : Rd wx a la) (hB : Rd wx b lb) => combined_any b a cb ca d1 u1 lb la wx hlb hla hB hA hmb hma bd1 bu1 R2 (by rw [← hR2]; simp [Ri]) (Nat.lt_of_lt_of_le (hR2f) (Nat.pow_le_pow_right (by omega) (by omega)))
    have hS := Stp.new w u0 u1 d0 d1 false
    have hk0 : Keep w (w.alloc (.cells #[.int .u64 (u0 : Nat), .int .u64 (u1 : Nat), .int .u64 (d0 : Nat), .int .u64 (d1 : Nat), .bool false] 117)) := (Keep.refl w).alloc _
    go_enter Tryz.func78, Tryz.ntmps78
    go_wp2_with fail
    generalize w.alloc _ = w1 at hS hk0 ⊢
    obtain ⟨x0, x1, x2, x3, x4⟩ := hS.cells
    have ra := hra.keep hk0
    have rb := hrb.keep hk0
    clear hR1 hR2 hR1f hR2f hS
    have hkw := hk0
    have hle := hk0.le
    generalize w.heap.size = g at x0 x1 x2 x3 x4 ⊢
    go_region_held3 (fun w' => w'.cell? ⟨g, 0, none⟩ = some (Value.int IntKind.u64 (u0 : Nat)) ∧ w'.cell? ⟨g, 1, none⟩ = some (Value.int IntKind.u64 (u1 : Nat)) ∧ w'.cell? ⟨g, 2, none⟩ = some (Value.int IntKind.u64 (d0 : Nat)) ∧ w'.cell? ⟨g, 3, none⟩ = some (Value.int IntKind.u64 (d1 : Nat))) (go_keep) (first
      | (go_at_call_of 100 (Value.int IntKind.u64 (u0 : Nat)); refine (C1 _ ?_ ?_).mono ?_; exact ra; exact rb; rintro e wA ⟨vA, rfl, nA, kA⟩; have nA' := nA; obtain ⟨aA, cA, lA, rfl, -⟩ := nA.shape; have z0 := Keep.cell kA x0; have z1 := Keep.cell kA x1; have z2 := Keep.cell kA x2; have z3 := Keep.cell kA x3)
      | (go_at_call_of 100 (Value.int IntKind.u64 (u1 : Nat)); refine (C2 _ ?_ ?_).mono ?_; exact ra.keep ((Keep.refl w1).drew.trans kA); exact rb.keep ((Keep.refl w1).drew.trans kA); rintro e wB ⟨vB, rfl, nB, kB⟩; have nB' := nB; obtain ⟨aB, cB, lB, rfl, -⟩ := nB.shape; have y0 := Keep.cell kB z0; have y1 := Keep.cell kB z1; have y2 := Keep.cell kB z2; have y3 := Keep.cell kB z3))
    have hk1 : Keep w wA := hk0.trans ((Keep.refl w1).drew.trans kA)
    have hk2 : Keep w wB := hk1.trans kB
    go_simp
    go_wp2_with fail
    go_ret2
    exact ⟨_, _, rfl, (nA'.keep kB).mono (hk0.trans (Keep.refl w1).drew).le, nB'.mono hk1.le, hk2⟩
  · have C1 := fun wx (hA : Rd wx a la) (hB : Rd wx b lb) => combined_any b a cb ca d0 u0 lb la wx hlb hla hB hA hmb hma bd0 bu0 R1 (by rw [← hR1]; simp [Ri]) (Nat.lt_of_lt_of_le (hR1f) (Nat.pow_le_pow_right (by omega) (by omega)))
    have C2 := fun wx (hA : Rd wx a la) (hB : Rd wx b lb) => combined_any a b ca cb u1 d1 la lb wx hla hlb hA hB hma hmb bu1 bd1 R2 (by rw [← hR2]; simp [Ri]) (Nat.lt_of_lt_of_le (hR2f) (Nat.pow_le_pow_right (by omega) (by omega)))
    have hS := Stp.new w u0 u1 d0 d1 true
    have hk0 : Keep w (w.alloc (.cells #[.int .u64 (u0 : Nat), .int .u64 (u1 : Nat), .int .u64 (d0 : Nat), .int .u64 (d1 : Nat), .bool true] 117)) := (Keep.refl w).alloc _
    go_enter Tryz.func78, Tryz.ntmps78
    go_wp2_with fail
    generalize w.alloc _ = w1 at hS hk0 ⊢
    obtain ⟨x0, x1, x2, x3, x4⟩ := hS.cells
    have ra := hra.keep hk0
    have rb := hrb.keep hk0
    clear hR1 hR2 hR1f hR2f hS
    have hkw := hk0
    have hle := hk0.le
    generalize w.heap.size = g at x0 x1 x2 x3 x4 ⊢
    go_region_held3 (fun w' => w'.cell? ⟨g, 0, none⟩ = some (Value.int IntKind.u64 (u0 : Nat)) ∧ w'.cell? ⟨g, 1, none⟩ = some (Value.int IntKind.u64 (u1 : Nat)) ∧ w'.cell? ⟨g, 2, none⟩ = some (Value.int IntKind.u64 (d0 : Nat)) ∧ w'.cell? ⟨g, 3, none⟩ = some (Value.int IntKind.u64 (d1 : Nat))) (go_keep) (first
      | (go_at_call_of 100 (Value.int IntKind.u64 (u0 : Nat)); refine (C1 _ ?_ ?_).mono ?_; exact ra; exact rb; rintro e wA ⟨vA, rfl, nA, kA⟩; have nA' := nA; obtain ⟨aA, cA, lA, rfl, -⟩ := nA.shape; have z0 := Keep.cell kA x0; have z1 := Keep.cell kA x1; have z2 := Keep.cell kA x2; have z3 := Keep.cell kA x3)
      | (go_at_call_of 100 (Value.int IntKind.u64 (u1 : Nat)); refine (C2 _ ?_ ?_).mono ?_; exact ra.keep ((Keep.refl w1).drew.trans kA); exact rb.keep ((Keep.refl w1).drew.trans kA); rintro e wB ⟨vB, rfl, nB, kB⟩; have nB' := nB; obtain ⟨aB, cB, lB, rfl, -⟩ := nB.shape; have y0 := Keep.cell kB z0; have y1 := Keep.cell kB z1; have y2 := Keep.cell kB z2; have y3 := Keep.cell kB z3))
    have hk1 : Keep w wA := hk0.trans ((Keep.refl w1).drew.trans kA)
    have hk2 : Keep w wB := hk1.trans kB
    go_simp
    go_wp2_with fail
    go_ret2
    exact ⟨_, _, rfl, (nA'.keep kB).mono (hk0.trans (Keep.refl w1).drew).le, nB'.mono hk1.le, hk2⟩
end Go.Proofs.YtinjikoocegooaaGreatDoor.Li
