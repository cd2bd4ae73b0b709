import Derived.Test.YtmknpgkpplfbkaaProg
import Derived.Test.YtmknpgkpplfbkaaLC2
import Derived.WalkKit
import Derived.WalkSpells
import Derived.WalkLawsBesides
import Derived.Laws.CopyOwn
import Derived.Deep.Draws
import Derived.Deep.QuietTactic
import Derived.BigQuiet
set_option linter.unusedVariables false
set_option linter.unusedSimpArgs false
namespace Go.Proofs.Ytmknpgkpplfbkaa
open Go.RowKit Lb
theorem or_hi (x y : Nat) (h : y < 4294967296) : y ||| (x * 4294967296) = y + x * 4294967296 := by
  have := Nat.two_pow_add_eq_or_of_lt (i := 32) h x
  rw [Nat.or_comm, Nat.mul_comm, Nat.add_comm]
  exact this.symm
theorem or64 (x y : Nat) (hx : x < 4294967296) (hy : y < 4294967296) : bits .or .u64 (y : Int) ((x : Int) * 4294967296) = ((y + x * 4294967296 : Nat) : Int) := by
  have := u64_or_nat y (x * 4294967296) (by omega) (by omega)
  rw [or_hi x y hy] at this
  rw [← this]
  simp
theorem or64' (x y : Nat) (hx : x < 4294967296) (hy : y < 4294967296) : bits .or .u64 ((x : Int) * 4294967296) (y : Int) = ((x * 4294967296 + y : Nat) : Int) := by
  have := u64_or_nat (x * 4294967296) y (by omega) (by omega)
  rw [Nat.or_comm, or_hi x y hy, Nat.add_comm] at this
  rw [← this]
  simp
theorem or64_0 (x y : Nat) (hx : x < 4294967296) (hy : y = 0) : bits .or .u64 (y : Int) (x : Int) = (x : Int) := by
  subst hy
  have := u64_or_nat 0 x (by omega) (by omega)
  rw [Nat.zero_or] at this
  exact this
set_option maxHeartbeats 400000 in
theorem low64_any (a : Option Addr) (c : Nat) (l : List Nat) (w : World) (hl : l.length ≤ 9223372036854775807) (hr : Rd w a l) (hm : Lim l) :
    Calls Try.prog 32 #[.slice a l.length c] w fun e w' => e = .returned (.int .u64 (val (l.take 2) : Nat)) ∧ w' = w := by
  by_cases h2l : 2 < l.length
  all_goals
    go_enter Try.func32, Try.ntmps32
    go_wp2
    go_loop [3, 8] (fun n i => ∃ k : Nat, k ≤ l.length ∧ k ≤ 2 ∧ i = .int .i64 k ∧ n = .int .u64 (val (l.take k) : Nat)) (fun _ i => 2 - (intOf i).toNat)
    case atStart => exact ⟨0, by omega, by omega, rfl, rfl⟩
    case round =>
      obtain ⟨k, hk, hk2, rfl, rfl⟩ := hrel
      by_cases hkl : k < l.length ∧ k < 2
      · obtain ⟨h1, h2⟩ := hkl
        obtain ⟨b, o, rfl, hc⟩ := hr k h1
        obtain ⟨x, hx⟩ : ∃ x, l.getD k 0 = x := ⟨_, rfl⟩
        have hxl : x < 4294967296 := hx ▸ Lim_getD hm k
        rw [hx] at hc
        have Hx : Hid (l.getD k 0 = x) := hx; clear hx
        rcases (show k = 0 ∨ k = 1 by omega) with rfl | rfl
        · obtain ⟨y, hy⟩ : ∃ y, val (l.take 0) = y := ⟨_, rfl⟩
          rw [hy]
          have Hy : Hid (val (l.take 0) = y) := hy; clear hy
          rw [Nat.add_zero] at hc
          go_wp2
          go_round
          case rel => exact ⟨1, by omega, by omega, rfl, by rw [or64_0 x y hxl Hy.out.symm, val_take_succ, Hx.out]; simp [val]⟩
          case measure => simp [intOf]
        · obtain ⟨y, hy⟩ : ∃ y, val (l.take 1) = y := ⟨_, rfl⟩
          rw [hy]
          have hyl : y < 4294967296 := by
            have := val_lt (Lim_take hm 1)
            rw [hy] at this
            have : (List.take 1 l).length = 1 := by simp; omega
            simp_all
          have Hy : Hid (val (l.take 1) = y) := hy; clear hy
          go_wp2
          go_round
          case rel => exact ⟨2, by omega, by omega, rfl, by rw [or64 x y hxl hyl, val_take_succ, Hx.out, Hy.out]⟩
          case measure => simp [intOf]
      · go_wp2
        go_ret
        have e : l.take 2 = l.take k := by
          rcases (show k = 2 ∨ (k = l.length ∧ k < 2) by omega) with rfl | ⟨h, h'⟩
          · rfl
          · rw [List.take_of_length_le (by omega), List.take_of_length_le (by omega)]
        exact ⟨ret_int (by rw [e]), rfl⟩
set_option maxHeartbeats 400000 in
theorem From_any (n : Nat) (w : World) (hn : n < 18446744073709551616) :
    Calls Try.prog 15 #[.int .u64 (n : Nat)] w fun e w' => ∃ v l, e = .returned v ∧ Res w.heap.size w' v l ∧ Lim l ∧ Nrm l ∧ val l = n ∧ Keep w w' := by
  go_enter Try.func15, Try.ntmps15
  go_wp2_with fail
  have hrow : Row (w.alloc (Obj.cells #[Value.int IntKind.u32 (↑n % 4294967296), Value.int IntKind.u32 (↑n / 4294967296)] 53)) w.heap.size [n % 4294967296, n / 4294967296] := by
    unfold Row; rw [heap_alloc_new]; simp [U]
  have hk : Keep w (w.alloc (Obj.cells #[Value.int IntKind.u32 (↑n % 4294967296), Value.int IntKind.u32 (↑n / 4294967296)] 53)) := (Keep.refl w).alloc _
  generalize w.alloc _ = w1 at hrow hk ⊢
  refine (trim_any (some ⟨w.heap.size, 0, none⟩) 2 [n % 4294967296, n / 4294967296] w1 (by simp) (by simp) (hrow.rd 0 2 (by simp))).mono ?_
  rintro e w' ⟨rfl, rfl⟩
  go_wp2
  go_ret
  refine ⟨_, [n % 4294967296, n / 4294967296].take (nl [n % 4294967296, n / 4294967296]), rfl, ?_, Lim_take (by intro x hx; simp at hx; omega) _, Nrm_take _, by rw [val_take_nl]; simp [val]; omega, hk⟩
  have hres : Res w.heap.size w' (.slice (some ⟨w.heap.size, 0, none⟩) 2 2) [n % 4294967296, n / 4294967296] := .inr ⟨_, _, rfl, Nat.le_refl _, hrow, Nat.le_refl _, rfl⟩
  exact hres.cut (nl_le _)
end Go.Proofs.Ytmknpgkpplfbkaa
