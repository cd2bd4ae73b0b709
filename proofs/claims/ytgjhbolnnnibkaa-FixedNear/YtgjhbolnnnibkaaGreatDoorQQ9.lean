import Derived.Test.YtgjhbolnnnibkaaGreatDoorProg
import Derived.Test.YtgjhbolnnnibkaaGreatDoorNC9
import Derived.Test.YtgjhbolnnnibkaaGreatDoorNC10
import Derived.Test.YtgjhbolnnnibkaaGreatDoorNB2
import Derived.Test.YtgjhbolnnnibkaaGreatDoorQQ3
import Derived.WalkKit
import Derived.WalkSpells
import Derived.WalkLawsBesides
import Derived.Laws.CopyOwn
import Derived.Deep.Draws
import Derived.Deep.QuietTactic
import Derived.BigQuiet
import Derived.Laws.MathBits
import Derived.Laws.Externs
import Derived.Laws.BytesArg
import Derived.Lib.OthersKept
import Derived.Deep.RegionWith
import Derived.WalkMore
import Derived.Deep.LoopGhost
import Derived.Deep.RegionHeld3
set_option linter.unusedVariables false
set_option linter.unusedSimpArgs false
namespace Go.Proofs.YtgjhbolnnnibkaaGreatDoor.Li
open Go.RowKit Lb
set_option maxHeartbeats 400000 in
theorem from_any (n : Nat) (w : World) (hn : n < 18446744073709551616) :
    Calls Tryz.prog 46 #[.int .u64 (n : Nat)] w fun e w' => ∃ v l, e = .returned v ∧ Res w.heap.size w' v l ∧ Lim l ∧ Nrm l ∧ val l = n ∧ Keep w w' := by
  go_enter Tryz.func46, Tryz.ntmps46
  go_wp2_with fail
  have hrow : Row (w.alloc (Obj.cells #[Value.int IntKind.u32 (↑n % 4294967296), Value.int IntKind.u32 (↑n / 4294967296)] 72)) w.heap.size [n % 4294967296, n / 4294967296] := by
    unfold Row; rw [heap_alloc_new]; simp [U]
  have hk : Keep w (w.alloc (Obj.cells #[Value.int IntKind.u32 (↑n % 4294967296), Value.int IntKind.u32 (↑n / 4294967296)] 72)) := (Keep.refl w).alloc _
  generalize w.alloc _ = w1 at hrow hk ⊢
  refine (norm_any (some ⟨w.heap.size, 0, none⟩) 2 [n % 4294967296, n / 4294967296] w1 (by simp) (by simp) (hrow.rd 0 2 (by simp))).mono ?_
  rintro e w' ⟨rfl, rfl⟩
  go_wp2
  go_ret
  refine ⟨_, [n % 4294967296, n / 4294967296].take (nl [n % 4294967296, n / 4294967296]), rfl, ?_, Lim_take (by intro x hx; simp at hx; omega) _, Nrm_take _, by rw [val_take_nl]; simp [val]; omega, hk⟩
  have hres : Res w.heap.size w' (.slice (some ⟨w.heap.size, 0, none⟩) 2 2) [n % 4294967296, n / 4294967296] := .inr ⟨_, _, rfl, Nat.le_refl _, hrow, Nat.le_refl _, rfl⟩
  exact hres.cut (nl_le _)
end Go.Proofs.YtgjhbolnnnibkaaGreatDoor.Li
set_option linter.unusedVariables false
set_option linter.unusedSimpArgs false
namespace Go.Proofs.YtgjhbolnnnibkaaGreatDoor.Li
open Go.RowKit Lb
theorem uTop (b : Nat) (hb : b < 18446744073709551616) : bits .and .u64 ((b : Int) / 4503599627370496) 2047 = ((pField b : Nat) : Int) := by
  have e : (b : Int) / 4503599627370496 = ((b / 4503599627370496 : Nat) : Int) := by omega
  have := u64_and_nat (b / 4503599627370496) 2047 (by omega) (by omega)
  rw [show b / 4503599627370496 &&& 2047 = b / 4503599627370496 % 2048 from Nat.and_two_pow_sub_one_eq_mod _ 11] at this
  rw [e]
  exact this
theorem uNeg (b : Nat) (hb : b < 18446744073709551616) : (bits .and .u64 ((b : Int) / 9223372036854775808) 1 == 1) = pNeg b := by
  have e : (b : Int) / 9223372036854775808 = ((b / 9223372036854775808 : Nat) : Int) := by omega
  have := u64_and_nat (b / 9223372036854775808) 1 (by omega) (by omega)
  rw [show b / 9223372036854775808 &&& 1 = b / 9223372036854775808 % 2 from Nat.and_one_is_mod _] at this
  rw [e]
  have h' : bits .and .u64 ((b / 9223372036854775808 : Nat) : Int) 1 = ((b / 9223372036854775808 % 2 : Nat) : Int) := this
  rw [h']
  unfold pNeg
  rw [Bool.eq_iff_iff]
  simp only [beq_iff_eq, decide_eq_true_eq]
  omega
theorem mid (w : World) (A B C : Obj) : (((w.alloc A).alloc B).alloc C).heap[w.heap.size + 1]? = some B := by
  have h : (w.alloc A).heap.size = w.heap.size + 1 := by simp
  rw [← h]
  exact (((Keep.refl _).alloc C).block _ (by simp)).trans (heap_alloc_new _ _)
def ofV (b : Nat) : Value := .agg #[.bool (pNeg b), .bool (decide (pKind b = 3)), .bool (decide (pKind b = 4)), .int .u64 (pM b : Nat), .int .i64 (if pField b = 2047 then 0 else if 0 < pField b then -1074 + (pField b : Int) - 1 else -1074)]
set_option maxRecDepth 100000 in
set_option maxHeartbeats 1000000 in
theorem Of_any (b : Nat) (hb : b < 18446744073709551616) (w : World) :
    Calls Tryz.prog 20 #[.int .u64 (b : Nat), .agg #[.int .i64 53, .int .i64 (-1074), .int .i64 971]] w fun e w' => e = .returned (ofV b) ∧ Keep w w' := by
  have h1 := uTop b hb
  have h2 := uNeg b hb
  have h3 := and52 b hb
  have hf : pField b < 2048 := Nat.mod_lt _ (by omega)
  have hkp : pKept b < 4503599627370496 := Nat.mod_lt _ (by omega)
  have h4 : wrap64 ((pField b : Nat) : Int) = (pField b : Nat) := IntWalk.wrap64_in _ (by omega)
  have HV : Hid (ofV b = .agg #[.bool (pNeg b), .bool (decide (pKind b = 3)), .bool (decide (pKind b = 4)), .int .u64 (pM b : Nat), .int .i64 (if pField b = 2047 then 0 else if 0 < pField b then -1074 + (pField b : Int) - 1 else -1074)]) := rfl
  have HK : Hid (pKind b = if pField b = 2047 then (if pKept b = 0 then 3 else 4) else if 0 < pField b then 2 else if 0 < pKept b then 1 else 0) := rfl
  have HM : Hid (pM b = if 0 < pField b ∧ pField b < 2047 then 4503599627370496 + pKept b else pKept b) := rfl
  have h5 := or52 (pKept b) hkp
  generalize ofV b = V at *
  generalize pField b = f at *
  generalize pKept b = kp at *
  generalize pNeg b = ng at *
  generalize pKind b = Kd at *
  generalize pM b = M at *
  by_cases g1 : f = 2047
  · subst g1
    go_enter Tryz.func20, Tryz.ntmps20
    go_wp2_with fail
    refine bodyPost_ret (results_cell_row rfl _ _ (w.heap.size + 1) 51 _ (0, 0) _ rfl (mid w _ _ _) Tryz.underlying51 rfl (by kernel_rfl)) rfl ?_
    rw [HV.out, HK.out, HM.out]
    refine ⟨?_, (((Keep.refl w).alloc _).alloc _).alloc _⟩
    by_cases g2 : kp = 0
    · subst g2; rfl
    · have e1 : ((kp : Int) == 0) = false := by rw [beq_eq_false_iff_ne]; omega
      have e2 : ((kp : Int) != 0) = true := by rw [bne_iff_ne]; omega
      rw [e1, e2]
      simp [g2]
  · have n1 : ((f : Int) == 2047) = false := by rw [beq_eq_false_iff_ne]; omega
    by_cases g2 : f = 0
    · subst g2
      go_enter Tryz.func20, Tryz.ntmps20
      go_wp2_with fail
      refine bodyPost_ret (results_cell_row rfl _ _ (w.heap.size + 1) 51 _ (0, 0) _ rfl (mid w _ _ _) Tryz.underlying51 rfl (by kernel_rfl)) rfl ?_
      rw [HV.out, HK.out, HM.out]
      refine ⟨?_, (((Keep.refl w).alloc _).alloc _).alloc _⟩
      by_cases g3 : kp = 0
      · subst g3; rfl
      · simp [show 0 < kp by omega]
    · have n2 : ((f : Int) == 0) = false := by rw [beq_eq_false_iff_ne]; omega
      have h6 := IntWalk.wrap64_in ((f : Int) - 1) (by omega)
      have h7 := IntWalk.wrap64_in ((f : Int) - 1 + -1074) (by omega)
      have h8 : bits .or .u64 (kp : Int) 4503599627370496 = ((4503599627370496 + kp : Nat) : Int) := by
        have h := u64_or_nat kp 4503599627370496 (by omega) (by omega)
        rw [Nat.or_comm, show 4503599627370496 ||| kp = 4503599627370496 + kp from (Nat.two_pow_add_eq_or_of_lt (i := 52) hkp 1).symm] at h
        exact h
      go_enter Tryz.func20, Tryz.ntmps20
      go_wp2_with fail
      refine bodyPost_ret (results_cell_row rfl _ _ (w.heap.size + 1) 51 _ (0, 0) _ rfl (mid w _ _ _) Tryz.underlying51 rfl (by kernel_rfl)) rfl ?_
      rw [HV.out, HK.out, HM.out]
      refine ⟨?_, (((Keep.refl w).alloc _).alloc _).alloc _⟩
      rw [if_neg g1, if_pos (show 0 < f by omega), if_pos (show 0 < f ∧ f < 2047 by omega), if_neg g1, if_pos (show 0 < f by omega), show -1074 + (f : Int) - 1 = f - 1 + -1074 by omega]
      rfl
end Go.Proofs.YtgjhbolnnnibkaaGreatDoor.Li
