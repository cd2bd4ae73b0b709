import Derived.Test.YtagfkmbljkglpaaProg
import Derived.Test.YtagfkmbljkglpaaLC6
import Derived.Test.YtagfkmbljkglpaaShelf
import Derived.WalkKit
import Derived.WalkSpells
import Derived.WalkLawsBesides
import Derived.Laws.CopyOwn
import Derived.Deep.Draws
import Derived.Deep.QuietTactic
import Derived.BigQuiet
import Derived.Laws.MathBits
import Derived.Shelf.Small.Bits
import Derived.Shelf.Strconv.Itoa0
import Derived.Shelf.Bits.Mul64
set_option linter.unusedVariables false
set_option linter.unusedSimpArgs false
namespace Go.Proofs.Ytagfkmbljkglpaa
open Go.RowKit Lb
theorem bitLen_aux : ∀ (f x : Nat), x < 2 ^ f → Lib.bitLenAux f x = bitLen x
  | 0, x, h => by simp at h; subst h; rfl
  | f + 1, x, h => by
    unfold Lib.bitLenAux
    by_cases h0 : x = 0
    · subst h0; rfl
    · rw [if_neg h0, bitLen_aux f (x / 2) (by rw [Nat.pow_succ] at h; omega), bitLen_half x (by omega)]; omega
theorem bitLen_lib (x : Nat) (h : x < 18446744073709551616) : Lib.bitLen x = bitLen x := bitLen_aux 64 x h
set_option maxRecDepth 100000 in
set_option maxHeartbeats 400000 in
theorem Len_any (a : Option Addr) (c : Nat) (l : List Nat) (w : World) (hnc : l.length ≤ c) (hl : l.length ≤ 70368744177664) (hr : Rd w a l) (hm : Lim l) :
    Calls Try.prog 10 #[.slice a l.length c] w fun e w' => e = .returned (.int .i64 (lenB l : Nat)) ∧ Dr w w' := by
  have h1 := nl_le l
  have t1 := trim_any a c l w hnc (by omega) hr
  by_cases h0 : nl l = 0
  · have hb : ((nl l : Int) == 0) = true := by simp; omega
    have he : Hid (lenB l = 0) := by show _ = _; unfold lenB; rw [if_pos h0]
    clear h0
    go_enter Try.func10, Try.ntmps10
    go_wp2_with fail
    refine t1.mono ?_
    rintro e w' ⟨rfl, rfl⟩
    go_wp2
    go_ret
    exact ⟨ret_int (by rw [he.out]; rfl), Dr.refl _⟩
  · obtain ⟨m, hm'⟩ : ∃ m, nl l = m + 1 := ⟨nl l - 1, by omega⟩
    obtain ⟨x, hx⟩ : ∃ x, l.getD m 0 = x := ⟨_, rfl⟩
    have hxl : x < 4294967296 := hx ▸ Lim_getD hm _
    have he : Hid (lenB l = 32 * m + bitLen x) := by show _ = _; unfold lenB; rw [if_neg h0, hm', Nat.add_sub_cancel, hx]
    have hbl := bitLen_le x hxl
    have hb2 : (((m : Int) + 1) == 0) = false := by simp; omega
    obtain ⟨b, o, rfl, hc⟩ := hr m (by omega)
    rw [hx] at hc
    rw [hm'] at t1
    have hml : m ≤ 70368744177664 := by omega
    clear hx h0 hr hm'
    have hL := Try.bits_Len32 (x : Nat) w (by omega) (by omega)
    rw [show ((x : Int)).toNat = x from rfl, bitLen_lib x (by omega)] at hL
    go_enter Try.func10, Try.ntmps10
    go_wp2_with fail
    refine t1.mono ?_
    rintro e w' ⟨rfl, rfl⟩
    go_wp2_with (go_at_call 19; refine hL.mono ?_; rintro e w'' ⟨rfl, rfl⟩)
    go_ret
    exact ⟨ret_int (by rw [he.out]; omega), Dr.refl _⟩
end Go.Proofs.Ytagfkmbljkglpaa
