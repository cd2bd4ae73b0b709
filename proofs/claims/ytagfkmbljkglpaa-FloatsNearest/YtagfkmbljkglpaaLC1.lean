import Derived.Test.YtagfkmbljkglpaaProg
import Derived.Test.YtagfkmbljkglpaaLBase
import Derived.WalkKit
import Derived.WalkSpells
import Derived.WalkLawsBesides
import Derived.Laws.CopyOwn
import Derived.Deep.Draws
import Derived.Deep.QuietTactic
import Derived.BigQuiet
set_option linter.unusedVariables false
set_option linter.unusedSimpArgs false
namespace Go.Proofs.Ytagfkmbljkglpaa
open Go.RowKit Lb
set_option maxHeartbeats 400000 in
theorem trim_any (a : Option Addr) (c : Nat) (l : List Nat) (w : World) (hnc : l.length ≤ c) (hbig : l.length ≤ 9223372036854775807) (hr : Rd w a l) :
    Calls Try.prog 18 #[.slice a l.length c] w fun e w' => e = .returned (.slice a (nl l) c) ∧ w' = w := by
  go_enter Try.func18, Try.ntmps18
  go_wp2
  go_loop [3] (fun i => ∃ k : Nat, k ≤ l.length ∧ i = .int .i64 k ∧ ∀ j, k ≤ j → l.getD j 0 = 0) (fun i => (intOf i).toNat)
  case atStart => exact ⟨l.length, Nat.le_refl _, rfl, fun j hj => by simp [List.getD, List.getElem?_eq_none hj]⟩
  case round =>
    obtain ⟨k, hk, rfl, hz⟩ := hrel
    by_cases h0 : 0 < k
    · obtain ⟨b, o, rfl, hc⟩ := hr (k - 1) (by omega)
      obtain ⟨x, hx⟩ : ∃ x, l.getD (k - 1) 0 = x := ⟨_, rfl⟩
      rw [hx] at hc
      by_cases hx0 : x = 0
      · subst hx0
        have Hx : Hid (l.getD (k - 1) 0 = 0) := hx; clear hx
        go_wp2
        go_round
        case rel => exact ⟨k - 1, by omega, by go_num, fun j hj => by
          by_cases e : j = k - 1
          · subst e; exact Hx.out
          · exact hz j (by omega)⟩
        case measure => simp [intOf]; omega
      · have Hx : Hid (l.getD (k - 1) 0 = x) := hx; clear hx
        go_wp2
        go_ret
        refine ⟨?_, rfl⟩
        rw [nl_eq l k hz (fun _ => by rw [Hx.out]; exact hx0)]
        rfl
    · go_wp2
      go_ret
      refine ⟨?_, rfl⟩
      rw [nl_eq l k hz (by omega)]
      rfl
set_option maxHeartbeats 400000 in
theorem fresh_any (a : Option Addr) (c : Nat) (l : List Nat) (w : World) (hl : l.length ≤ 70368744177664) (hr : Rd w a l) :
    Calls Try.prog 36 #[.slice a l.length c] w fun e w' => e = .returned (.slice (some ⟨w.heap.size, 0, none⟩) l.length l.length) ∧ Row w' w.heap.size l ∧ Keep w w' ∧ w'.heap.size = w.heap.size + 1 := by
  go_enter Try.func36, Try.ntmps36
  go_wp2_with (first | (at_make; refine wpList_make32 _ rfl _ _ rfl _ _ _ _ l.length rfl rfl rfl rfl hl ?_; intro w1 hrow hk hsz) | (with_reducible show wpList _ _ _ (Oper.mk (some 9) _ _ _ _ _ :: _) _ _; refine wpList_copy32 rfl _ _ rfl _ _ _ _ _ l rfl rfl w.heap.size 0 _ hrow (Nat.le_refl _) (fun _ => rfl) (hr.keep hk) ?_ ?_; rotate_left; intro w2 hrow2 hm2))
  go_ret
  refine ⟨rfl, by simpa using hrow2, hk.mut hm2 (Nat.le_refl _), by rw [hm2.size, hsz]⟩
  simp
end Go.Proofs.Ytagfkmbljkglpaa
