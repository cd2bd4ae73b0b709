import Derived.Test.YtagfkmbljkglpaaProg
import Derived.Test.YtagfkmbljkglpaaLC2
import Derived.WalkKit
import Derived.WalkSpells
import Derived.WalkLawsBesides
import Derived.Laws.CopyOwn
import Derived.Deep.Draws
import Derived.Deep.QuietTactic
import Derived.BigQuiet
set_option linter.unusedVariables false
set_option linter.unusedSimpArgs false
namespace Go.Proofs.Ytagfkmbljkglpaa
open Go.RowKit Lb
theorem or_hi (x y : Nat) (h : y < 4294967296) : y ||| (x * 4294967296) = y + x * 4294967296 := by
  have := Nat.two_pow_add_eq_or_of_lt (i := 32) h x
  rw [Nat.or_comm, Nat.mul_comm, Nat.add_comm]
  exact this.symm
theorem or64 (x y : Nat) (hx : x < 4294967296) (hy : y < 4294967296) : bits .or .u64 (y : Int) ((x : Int) * 4294967296) = ((y + x * 4294967296 : Nat) : Int) := by
  have := u64_or_nat y (x * 4294967296) (by omega) (by omega)
  rw [or_hi x y hy] at this
  rw [← this]
  simp
theorem or64' (x y : Nat) (hx : x < 4294967296) (hy : y < 4294967296) : bits .or .u64 ((x : Int) * 4294967296) (y : Int) = ((x * 4294967296 + y : Nat) : Int) := by
  have := u64_or_nat (x * 4294967296) y (by omega) (by omega)
  rw [Nat.or_comm, or_hi x y hy, Nat.add_comm] at this
  rw [← this]
  simp
theorem or64_0 (x y : Nat) (hx : x < 4294967296) (hy : y = 0) : bits .or .u64 (y : Int) (x : Int) = (x : Int) := by
  subst hy
  have := u64_or_nat 0 x (by omega) (by omega)
  rw [Nat.zero_or] at this
  exact this
set_option maxHeartbeats 400000 in
theorem low64_any (a : Option Addr) (c : Nat) (l : List Nat) (w : World) (hl : l.length ≤ 9223372036854775807) (hr : Rd w a l) (hm : Lim l) :
    Calls Try.prog 32 #[.slice a l.length c] w fun e w' => e = .returned (.int .u64 (val (l.take 2) : Nat)) ∧ w' = w := by
  by_cases h2l : 2 < l.length
  all_goals
    go_enter Try.func32, Try.ntmps32
    go_wp2
    go_loop [3, 8] (fun n i => ∃ k : Nat, k ≤ l.length ∧ k ≤ 2 ∧ i = .int .i64 k ∧ n = .int .u64 (val (l.take k) : Nat)) (fun _ i => 2 - (intOf i).toNat)
    case atStart => exact ⟨0, by omega, by omega, rfl, rfl⟩
    case round =>
      obtain ⟨k, hk, hk2, rfl, rfl⟩ := hrel
      by_cases hkl : k < l.length ∧ k < 2
      · obtain ⟨h1, h2⟩ := hkl
        obtain ⟨b, o, rfl, hc⟩ := hr k h1
        obtain ⟨x, hx⟩ : ∃ x, l.getD k 0 = x := ⟨_, rfl⟩
        have hxl : x < 4294967296 := hx ▸ Lim_getD hm k
        rw [hx] at hc
        have Hx : Hid (l.getD k 0 = x) := hx; clear hx
        rcases (show k = 0 ∨ k = 1 by omega) with rfl | rfl
        · obtain ⟨y, hy⟩ : ∃ y, val (l.take 0) = y := ⟨_, rfl⟩
          rw [hy]
          have Hy : Hid (val (l.take 0) = y) := hy; clear hy
          rw [Nat.add_zero] at hc
          go_wp2
          go_round
          case rel => exact ⟨1, by omega, by omega, rfl, by rw [or64_0 x y hxl Hy.out.symm, val_take_succ, Hx.out]; simp [val]⟩
          case measure => simp [intOf]
        · obtain ⟨y, hy⟩ : ∃ y, val (l.take 1) = y := ⟨_, rfl⟩
          rw [hy]
          have hyl : y < 4294967296 := by
            have := val_lt (Lim_take hm 1)
            rw [hy] at this
            have : (List.take 1 l).length = 1 := by simp; omega
            simp_all
          have Hy : Hid (val (l.take 1) = y) := hy; clear hy
          go_wp2
          go_round
          case rel => exact ⟨2, by omega, by omega, rfl, by rw [or64 x y hxl hyl, val_take_succ, Hx.out, Hy.out]⟩
          case measure => simp [intOf]
      · go_wp2
        go_ret
        have e : l.take 2 = l.take k := by
          rcases (show k = 2 ∨ (k = l.length ∧ k < 2) by omega) with rfl | ⟨h, h'⟩
          · rfl
          · rw [List.take_of_length_le (by omega), List.take_of_length_le (by omega)]
        exact ⟨ret_int (by rw [e]), rfl⟩
end Go.Proofs.Ytagfkmbljkglpaa
