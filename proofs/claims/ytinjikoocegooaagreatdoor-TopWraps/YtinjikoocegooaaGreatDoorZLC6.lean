import Derived.Test.YtinjikoocegooaaGreatDoorLC10
import Derived.Test.YtinjikoocegooaaGreatDoorShelf
import Derived.Test.YtinjikoocegooaaGreatDoorProg
import Derived.WalkKit
import Derived.WalkSpells
import Derived.WalkLawsBesides
import Derived.Laws.CopyOwn
import Derived.Deep.Draws
import Derived.Deep.QuietTactic
import Derived.BigQuiet
import Derived.Laws.MathBits
set_option linter.unusedVariables false
set_option linter.unusedSimpArgs false
namespace Lb
theorem Lim_drop {l : List Nat} (h : Lim l) (n : Nat) : Lim (l.drop n) := fun x hx => h x (List.mem_of_mem_drop hx)
end Lb
set_option linter.unusedVariables false
set_option linter.unusedSimpArgs false
namespace Go.Proofs.YtinjikoocegooaaGreatDoor.Li
open Go.RowKit Lb
theorem ret_bool {a b : Bool} (h : a = b) : Ending.returned (.bool a) = .returned (.bool b) := by rw [h]
theorem Keep.drew {a b : World} (h : Keep a b) : Keep a b.drew := Below.drew h
theorem Mut.drew {g : Nat} {a b : World} (h : Mut g a b) : Mut g a b.drew := ⟨h.os, h.tape, h.output, h.size, h.block⟩
end Go.Proofs.YtinjikoocegooaaGreatDoor.Li
set_option linter.unusedVariables false
set_option linter.unusedSimpArgs false
namespace Go.Proofs.YtinjikoocegooaaGreatDoor.Li
open Go.RowKit Lb
set_option maxHeartbeats 400000 in
theorem fresh_any (a : Option Addr) (c : Nat) (l : List Nat) (w : World) (hl : l.length ≤ 70368744177664) (hr : Rd w a l) :
    Calls Tryz.prog 52 #[.slice a l.length c] w fun e w' => e = .returned (.slice (some ⟨w.heap.size, 0, none⟩) l.length l.length) ∧ Row w' w.heap.size l ∧ Keep w w' ∧ w'.heap.size = w.heap.size + 1 := by
  go_enter Tryz.func52, Tryz.ntmps52
  go_wp2_with (first | (at_make; refine wpList_make32 _ rfl _ _ rfl _ _ _ _ l.length rfl rfl rfl rfl hl ?_; intro w1 hrow hk hsz) | (with_reducible show wpList _ _ _ (Oper.mk (some 9) _ _ _ _ _ :: _) _ _; refine wpList_copy32 rfl _ _ rfl _ _ _ _ _ l rfl rfl w.heap.size 0 _ hrow (Nat.le_refl _) (fun _ => rfl) (hr.keep hk) ?_ ?_; rotate_left; intro w2 hrow2 hm2))
  go_ret
  refine ⟨rfl, by simpa using hrow2, hk.mut hm2 (Nat.le_refl _), by rw [hm2.size, hsz]⟩
  simp
end Go.Proofs.YtinjikoocegooaaGreatDoor.Li
set_option linter.unusedVariables false
set_option linter.unusedSimpArgs false
namespace Go.Proofs.YtinjikoocegooaaGreatDoor.Li
open Go.RowKit Lb
theorem or_hi (x y : Nat) (h : y < 4294967296) : y ||| (x * 4294967296) = y + x * 4294967296 := by
  have := Nat.two_pow_add_eq_or_of_lt (i := 32) h x
  rw [Nat.or_comm, Nat.mul_comm, Nat.add_comm]
  exact this.symm
theorem or64 (x y : Nat) (hx : x < 4294967296) (hy : y < 4294967296) : bits .or .u64 (y : Int) ((x : Int) * 4294967296) = ((y + x * 4294967296 : Nat) : Int) := by
  have := u64_or_nat y (x * 4294967296) (by omega) (by omega)
  rw [or_hi x y hy] at this
  rw [← this]
  simp
theorem or64' (x y : Nat) (hx : x < 4294967296) (hy : y < 4294967296) : bits .or .u64 ((x : Int) * 4294967296) (y : Int) = ((x * 4294967296 + y : Nat) : Int) := by
  have := u64_or_nat (x * 4294967296) y (by omega) (by omega)
  rw [Nat.or_comm, or_hi x y hy, Nat.add_comm] at this
  rw [← this]
  simp
theorem or64_0 (x y : Nat) (hx : x < 4294967296) (hy : y = 0) : bits .or .u64 (y : Int) (x : Int) = (x : Int) := by
  subst hy
  have := u64_or_nat 0 x (by omega) (by omega)
  rw [Nat.zero_or] at this
  exact this
set_option maxHeartbeats 400000 in
theorem low64_any (a : Option Addr) (c : Nat) (l : List Nat) (w : World) (hl : l.length ≤ 9223372036854775807) (hr : Rd w a l) (hm : Lim l) :
    Calls Tryz.prog 80 #[.slice a l.length c] w fun e w' => e = .returned (.int .u64 (val (l.take 2) : Nat)) ∧ w' = w := by
  by_cases h2l : 2 < l.length
  all_goals
    go_enter Tryz.func80, Tryz.ntmps80
    go_wp2
    go_loop [3, 8] (fun n i => ∃ k : Nat, k ≤ l.length ∧ k ≤ 2 ∧ i = .int .i64 k ∧ n = .int .u64 (val (l.take k) : Nat)) (fun _ i => 2 - (intOf i).toNat)
    case atStart => exact ⟨0, by omega, by omega, rfl, rfl⟩
    case round =>
      obtain ⟨k, hk, hk2, rfl, rfl⟩ := hrel
      by_cases hkl : k < l.length ∧ k < 2
      · obtain ⟨h1, h2⟩ := hkl
        obtain ⟨b, o, rfl, hc⟩ := hr k h1
        obtain ⟨x, hx⟩ : ∃ x, l.getD k 0 = x := ⟨_, rfl⟩
        have hxl : x < 4294967296 := hx ▸ Lim_getD hm k
        rw [hx] at hc
        have Hx : Hid (l.getD k 0 = x) := hx; clear hx
        rcases (show k = 0 ∨ k = 1 by omega) with rfl | rfl
        · obtain ⟨y, hy⟩ : ∃ y, val (l.take 0) = y := ⟨_, rfl⟩
          rw [hy]
          have Hy : Hid (val (l.take 0) = y) := hy; clear hy
          rw [Nat.add_zero] at hc
          go_wp2
          go_round
          case rel => exact ⟨1, by omega, by omega, rfl, by rw [or64_0 x y hxl Hy.out.symm, val_take_succ, Hx.out]; simp [val]⟩
          case measure => simp [intOf]
        · obtain ⟨y, hy⟩ : ∃ y, val (l.take 1) = y := ⟨_, rfl⟩
          rw [hy]
          have hyl : y < 4294967296 := by
            have := val_lt (Lim_take hm 1)
            rw [hy] at this
            have : (List.take 1 l).length = 1 := by simp; omega
            simp_all
          have Hy : Hid (val (l.take 1) = y) := hy; clear hy
          go_wp2
          go_round
          case rel => exact ⟨2, by omega, by omega, rfl, by rw [or64 x y hxl hyl, val_take_succ, Hx.out, Hy.out]⟩
          case measure => simp [intOf]
      · go_wp2
        go_ret
        have e : l.take 2 = l.take k := by
          rcases (show k = 2 ∨ (k = l.length ∧ k < 2) by omega) with rfl | ⟨h, h'⟩
          · rfl
          · rw [List.take_of_length_le (by omega), List.take_of_length_le (by omega)]
        exact ⟨ret_int (by rw [e]), rfl⟩
end Go.Proofs.YtinjikoocegooaaGreatDoor.Li
set_option linter.unusedVariables false
set_option linter.unusedSimpArgs false
namespace Go.Proofs.YtinjikoocegooaaGreatDoor.Li
open Go.RowKit Lb
def lenB (l : List Nat) : Nat := if nl l = 0 then 0 else 32 * (nl l - 1) + bitLen (l.getD (nl l - 1) 0)
theorem bitLen_half (x : Nat) (h : 0 < x) : bitLen x = bitLen (x / 2) + 1 := by
  by_cases h1 : x / 2 = 0
  · have : x = 1 := by omega
    subst this; decide
  · have := bitLen_shift x 1 (by simpa using h1)
    simp at this; omega
theorem bitLen_le (x : Nat) (h : x < 4294967296) : bitLen x ≤ 32 := by
  unfold bitLen
  split
  · omega
  · rename_i h0
    have := (Nat.log2_lt h0).2 (show x < 2 ^ 32 from h)
    omega
end Go.Proofs.YtinjikoocegooaaGreatDoor.Li
set_option linter.unusedVariables false
set_option linter.unusedSimpArgs false
namespace Go.Proofs.YtinjikoocegooaaGreatDoor.Li
open Go.RowKit Lb
theorem val_drop_pred (r : List Nat) (k : Nat) (h0 : 0 < k) (h : k ≤ r.length) : val (r.drop (k - 1)) = r.getD (k - 1) 0 + 4294967296 * val (r.drop k) := by
  obtain ⟨j, rfl⟩ : ∃ j, k = j + 1 := ⟨k - 1, by omega⟩
  rw [Nat.add_sub_cancel, List.drop_eq_getElem_cons (by omega), val]
  simp [List.getD, show j < r.length by omega]
end Go.Proofs.YtinjikoocegooaaGreatDoor.Li
