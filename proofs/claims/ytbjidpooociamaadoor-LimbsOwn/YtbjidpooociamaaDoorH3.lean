import Derived.Test.YtbjidpooociamaaDoorH2
import Derived.Test.YtbjidpooociamaaDoorH1
import Derived.Deep.RegionHeld3
set_option linter.unusedVariables false
set_option linter.unusedSimpArgs false
namespace Go.Proofs.YtbjidpooociamaaDoor
open Go.RowKit Lb
set_option maxRecDepth 100000 in
theorem known_any (u0 u1 d0 d1 : Nat) (odd : Bool) (w : World) :
    Calls Tryd.prog 107 #[.agg #[.int .u64 (u0 : Nat), .int .u64 (u1 : Nat), .int .u64 (d0 : Nat), .int .u64 (d1 : Nat), .bool odd]] w fun e w' => e = .returned (.bool (!((d0 : Int) == 0))) ∧ Keep w w' := by
  go_enter Tryd.func107, Tryd.ntmps107
  go_wp2_with fail
  go_ret
  exact ⟨rfl, (Keep.refl w).alloc _⟩
set_option maxRecDepth 100000 in
set_option maxHeartbeats 800000 in
theorem do_any (u0 u1 d0 d1 : Nat) (odd : Bool) (a b : Option Addr) (ca cb : Nat) (la lb : List Nat) (w : World) (hla : la.length ≤ 70368744177664) (hlb : lb.length ≤ 70368744177664) (hra : Rd w a la) (hrb : Rd w b lb) (hma : Lim la) (hmb : Lim lb)
    (bu0 : u0 < 1073741824) (bd0 : d0 < 1073741824) (bu1 : u1 < 1073741824) (bd1 : d1 < 1073741824) (R1 R2 : Nat) (hR1 : Ri (!odd) u0 d0 (val la) (val lb) = (R1 : Int)) (hR2 : Ri odd u1 d1 (val la) (val lb) = (R2 : Int)) (hR1f : R1 < 4294967296 ^ lb.length) (hR2f : R2 < 4294967296 ^ lb.length) :
    Calls Tryd.prog 108 #[.agg #[.int .u64 (u0 : Nat), .int .u64 (u1 : Nat), .int .u64 (d0 : Nat), .int .u64 (d1 : Nat), .bool odd], .slice a la.length ca, .slice b lb.length cb] w fun e w' => ∃ vx vy, e = .returned (.tuple #[vx, vy]) ∧ NatR w.heap.size w' vx R1 ∧ NatR w.heap.size w' vy R2 ∧ Keep w w' := by
  cases odd
  · have C1 := fun wx (hA : Rd wx a la) (hB : Rd wx b lb) => combined_any a b ca cb u0 d0 la lb wx hla hlb hA hB hma hmb bu0 bd0 R1 (by rw [← hR1]; simp [Ri]) (Nat.lt_of_lt_of_le (hR1f) (Nat.pow_le_pow_right (by omega) (by omega)))
    have C2 := fun wx (hA : Rd wx a la) (hB : Rd wx b lb) => combined_any b a cb ca d1 u1 lb la wx hlb hla hB hA hmb hma bd1 bu1 R2 (by rw [← hR2]; simp [Ri]) (Nat.lt_of_lt_of_le (hR2f) (Nat.pow_le_pow_right (by omega) (by omega)))
    have hS := Stp.new w u0 u1 d0 d1 false
    have hk0 : Keep w (w.alloc (.cells #[.int .u64 (u0 : Nat), .int .u64 (u1 : Nat), .int .u64 (d0 : Nat), .int .u64 (d1 : Nat), .bool false] 100)) := (Keep.refl w).alloc _
    go_enter Tryd.func108, Tryd.ntmps108
    go_wp2_with fail
    generalize w.alloc _ = w1 at hS hk0 ⊢
    obtain ⟨x0, x1, x2, x3, x4⟩ := hS.cells
    have ra := hra.keep hk0
    have rb := hrb.keep hk0
    clear hR1 hR2 hR1f hR2f hS
    have hkw := hk0
    have hle := hk0.le
    generalize w.heap.size = g at x0 x1 x2 x3 x4 ⊢
    go_region_held3 (fun w' => w'.cell? ⟨g, 0, none⟩ = some (Value.int IntKind.u64 (u0 : Nat)) ∧ w'.cell? ⟨g, 1, none⟩ = some (Value.int IntKind.u64 (u1 : Nat)) ∧ w'.cell? ⟨g, 2, none⟩ = some (Value.int IntKind.u64 (d0 : Nat)) ∧ w'.cell? ⟨g, 3, none⟩ = some (Value.int IntKind.u64 (d1 : Nat))) (go_keep) (first
      | (go_at_call_of 123 (Value.int IntKind.u64 (u0 : Nat)); refine (C1 _ ?_ ?_).mono ?_; exact ra; exact rb; rintro e wA ⟨vA, rfl, nA, kA⟩; have nA' := nA; obtain ⟨aA, cA, lA, rfl, -⟩ := nA.shape; have z0 := Keep.cell kA x0; have z1 := Keep.cell kA x1; have z2 := Keep.cell kA x2; have z3 := Keep.cell kA x3)
      | (go_at_call_of 123 (Value.int IntKind.u64 (u1 : Nat)); refine (C2 _ ?_ ?_).mono ?_; exact ra.keep ((Keep.refl w1).drew.trans kA); exact rb.keep ((Keep.refl w1).drew.trans kA); rintro e wB ⟨vB, rfl, nB, kB⟩; have nB' := nB; obtain ⟨aB, cB, lB, rfl, -⟩ := nB.shape; have y0 := Keep.cell kB z0; have y1 := Keep.cell kB z1; have y2 := Keep.cell kB z2; have y3 := Keep.cell kB z3))
    have hk1 : Keep w wA := hk0.trans ((Keep.refl w1).drew.trans kA)
    have hk2 : Keep w wB := hk1.trans kB
    go_simp
    go_wp2_with fail
    go_ret2
    exact ⟨_, _, rfl, (nA'.keep kB).mono (hk0.trans (Keep.refl w1).drew).le, nB'.mono hk1.le, hk2⟩
  · have C1 := fun wx (hA : Rd wx a la) (hB : Rd wx b lb) => combined_any b a cb ca d0 u0 lb la wx hlb hla hB hA hmb hma bd0 bu0 R1 (by rw [← hR1]; simp [Ri]) (Nat.lt_of_lt_of_le (hR1f) (Nat.pow_le_pow_right (by omega) (by omega)))
    have C2 := fun wx (hA : Rd wx a la) (hB : Rd wx b lb) => combined_any a b ca cb u1 d1 la lb wx hla hlb hA hB hma hmb bu1 bd1 R2 (by rw [← hR2]; simp [Ri]) (Nat.lt_of_lt_of_le (hR2f) (Nat.pow_le_pow_right (by omega) (by omega)))
    have hS := Stp.new w u0 u1 d0 d1 true
    have hk0 : Keep w (w.alloc (.cells #[.int .u64 (u0 : Nat), .int .u64 (u1 : Nat), .int .u64 (d0 : Nat), .int .u64 (d1 : Nat), .bool true] 100)) := (Keep.refl w).alloc _
    go_enter Tryd.func108, Tryd.ntmps108
    go_wp2_with fail
    generalize w.alloc _ = w1 at hS hk0 ⊢
    obtain ⟨x0, x1, x2, x3, x4⟩ := hS.cells
    have ra := hra.keep hk0
    have rb := hrb.keep hk0
    clear hR1 hR2 hR1f hR2f hS
    have hkw := hk0
    have hle := hk0.le
    generalize w.heap.size = g at x0 x1 x2 x3 x4 ⊢
    go_region_held3 (fun w' => w'.cell? ⟨g, 0, none⟩ = some (Value.int IntKind.u64 (u0 : Nat)) ∧ w'.cell? ⟨g, 1, none⟩ = some (Value.int IntKind.u64 (u1 : Nat)) ∧ w'.cell? ⟨g, 2, none⟩ = some (Value.int IntKind.u64 (d0 : Nat)) ∧ w'.cell? ⟨g, 3, none⟩ = some (Value.int IntKind.u64 (d1 : Nat))) (go_keep) (first
      | (go_at_call_of 123 (Value.int IntKind.u64 (u0 : Nat)); refine (C1 _ ?_ ?_).mono ?_; exact ra; exact rb; rintro e wA ⟨vA, rfl, nA, kA⟩; have nA' := nA; obtain ⟨aA, cA, lA, rfl, -⟩ := nA.shape; have z0 := Keep.cell kA x0; have z1 := Keep.cell kA x1; have z2 := Keep.cell kA x2; have z3 := Keep.cell kA x3)
      | (go_at_call_of 123 (Value.int IntKind.u64 (u1 : Nat)); refine (C2 _ ?_ ?_).mono ?_; exact ra.keep ((Keep.refl w1).drew.trans kA); exact rb.keep ((Keep.refl w1).drew.trans kA); rintro e wB ⟨vB, rfl, nB, kB⟩; have nB' := nB; obtain ⟨aB, cB, lB, rfl, -⟩ := nB.shape; have y0 := Keep.cell kB z0; have y1 := Keep.cell kB z1; have y2 := Keep.cell kB z2; have y3 := Keep.cell kB z3))
    have hk1 : Keep w wA := hk0.trans ((Keep.refl w1).drew.trans kA)
    have hk2 : Keep w wB := hk1.trans kB
    go_simp
    go_wp2_with fail
    go_ret2
    exact ⟨_, _, rfl, (nA'.keep kB).mono (hk0.trans (Keep.refl w1).drew).le, nB'.mono hk1.le, hk2⟩
end Go.Proofs.YtbjidpooociamaaDoor
