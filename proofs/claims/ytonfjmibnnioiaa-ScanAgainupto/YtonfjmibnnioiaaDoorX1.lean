import Derived.Test.YtonfjmibnnioiaaDoorW3
import Derived.Laws.RangeAny
import Derived.Lib.DecodeN
import Derived.Lib.OthersKept
set_option linter.unusedVariables false
set_option linter.unusedSimpArgs false
namespace Go.Proofs.YtonfjmibnnioiaaDoor
open Go.RowKit Go.Shelf
theorem ValidRune_any (r : Int) (w : World) : Calls Tryd.prog 77 #[.int .i32 r] w fun e w' => e = .returned (.bool (validRune r)) ∧ w' = w := by
  obtain ⟨b1, e1⟩ : ∃ b, decide ((0 : Int) ≤ r) = b := ⟨_, rfl⟩
  obtain ⟨b2, e2⟩ : ∃ b, decide (r < 55296) = b := ⟨_, rfl⟩
  obtain ⟨b3, e3⟩ : ∃ b, decide ((57343 : Int) < r) = b := ⟨_, rfl⟩
  obtain ⟨b4, e4⟩ : ∃ b, decide (r ≤ 1114111) = b := ⟨_, rfl⟩
  have H : Hid (validRune r = ((b1 && b2) || (b3 && b4))) := by
    unfold Hid validRune; rw [← e1, ← e2, ← e3, ← e4, ← Bool.decide_and, ← Bool.decide_and, ← Bool.decide_or]
  generalize validRune r = v at *
  cases b1 <;> cases b2 <;> cases b3 <;> cases b4 <;> first
    | (go_enter Tryd.func77, Tryd.ntmps77; go_wp2_with fail; go_ret; exact ⟨by rw [H.out]; rfl, rfl⟩)
    | (go_enter Tryd.func77, Tryd.ntmps77; go_wp2_with fail; done)
set_option maxRecDepth 100000 in
set_option maxHeartbeats 2000000 in
theorem IndexRune_err (w : World) : Calls Tryd.prog 67 #[.string ⟨#[13, 10]⟩, .int .i32 65533] w fun e w' => e = .returned (.int .i64 (-1)) ∧ Keep w w' := by
  obtain ⟨s, hs⟩ : ∃ s : ByteArray, s = ⟨#[13, 10]⟩ := ⟨_, rfl⟩
  rw [← hs]
  have hsz : s.size = 2 := by rw [hs]; rfl
  have hn0 := fun ty => run_next_ascii (P := Tryd.prog) w s 0 ty (by omega) (by subst hs; show (13 : UInt8).toNat < 128; decide)
  have hn1 := fun ty => run_next_ascii (P := Tryd.prog) w s 1 ty (by omega) (by subst hs; show (10 : UInt8).toNat < 128; decide)
  have hn2 := fun ty => run_next_end (P := Tryd.prog) w s 2 ty (by omega)
  have x0 : (s[0]'(by omega)).toNat = 13 := by subst hs; rfl
  have x1 : (s[1]'(by omega)).toNat = 10 := by subst hs; rfl
  rw [x0] at hn0
  rw [x1] at hn1
  clear x0 x1
  replace hs : Hid _ := hs
  go_enter Tryd.func67, Tryd.ntmps67
  go_wp2_with fail
  go_loopg [5, 6] 2 (fun g _ _ wx => ∃ i : Nat, i + g = 2 ∧ wx = w.iter s i)
  case atStart => exact ⟨0, by omega, rfl⟩
  case round =>
    obtain ⟨i, hig, rfl⟩ := hrel
    obtain h | h | h : (i = 0 ∧ gk = 2) ∨ (i = 1 ∧ gk = 1) ∨ (i = 2 ∧ gk = 0) := by omega
    · obtain ⟨rfl, rfl⟩ := h
      go_wp2_with fail
      go_roundg 1
      case measure => omega
      case rel => exact ⟨1, by omega, rfl⟩
    · obtain ⟨rfl, rfl⟩ := h
      go_wp2_with fail
      go_roundg 0
      case measure => omega
      case rel => exact ⟨2, by omega, rfl⟩
    · obtain ⟨rfl, rfl⟩ := h
      go_wp2_with fail
      go_ret
      exact ⟨rfl, (Keep.refl w).alloc _⟩
end Go.Proofs.YtonfjmibnnioiaaDoor
