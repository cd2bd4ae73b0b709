import Derived.Test.YtcdcheecaphmgaaDoorProg
import Derived.Test.YtcdcheecaphmgaaDoorBBase
import Derived.WalkKit
import Derived.WalkSpells
import Derived.WalkLawsBesides
import Derived.Laws.CopyOwn
import Derived.Deep.Draws
import Derived.Deep.QuietTactic
import Derived.BigQuiet
set_option linter.unusedVariables false
set_option linter.unusedSimpArgs false
namespace Go.Proofs.YtcdcheecaphmgaaDoor.Bi
open Go.RowKit
theorem wrapbit {r : Nat} (h : r < 64) : IntKind.u64.wrap (2 ^ r) = ((2 ^ r : Nat) : Int) := by
  have hb := bit_lt h
  rw [IntKind.wrap_u64, show (2 : Int) ^ r = ((2 ^ r : Nat) : Int) by push_cast; rfl]
  generalize 2 ^ r = p at hb ⊢
  omega
theorem orbit {x r : Nat} (hx : x < 18446744073709551616) (h : r < 64) : bits .or .u64 (x : Int) (IntKind.u64.wrap (2 ^ r)) = ((x ||| 2 ^ r : Nat) : Int) := by
  rw [wrapbit h, u64_or_nat x _ hx (bit_lt h)]
theorem step_in {rk : List Nat} {k q r x : Nat} {f : Nat → Bool} (hq : k / 64 = q) (hr : k % 64 = r) (hx : rk.getD q 0 = x) (hl : q < rk.length) (h : ∀ j, hs rk j = (decide (j < k) && f j)) (fk : f k = true) :
    ∀ j, hs (rk.set q (x ||| 2 ^ r)) j = (decide (j < k + 1) && f j) := by
  intro j
  subst hq hr hx
  rw [hs_bit hl, h]
  by_cases e : j = k
  · subst e; simp [fk]
  · rw [decide_eq_false e, Bool.or_false]
    congr 1
    rw [decide_eq_decide]; omega
theorem step_out {rk : List Nat} {k : Nat} {f : Nat → Bool} (h : ∀ j, hs rk j = (decide (j < k) && f j)) (fk : f k = false) :
    ∀ j, hs rk j = (decide (j < k + 1) && f j) := by
  intro j
  rw [h]
  by_cases e : j = k
  · subst e; simp [fk]
  · congr 1
    rw [decide_eq_decide]; omega
set_option maxRecDepth 100000 in
set_option maxHeartbeats 400000 in
theorem made_any (n : Nat) (fr to : Int) (inb : Bool) (w : World) (hn : n ≤ 1048576) :
    Calls Tryd.prog 69 #[.int .i64 (n : Nat), .int .i64 fr, .int .i64 to, .bool inb] w fun e w' => ∃ l : List Nat, e = .returned (.slice (some ⟨w.heap.size, 0, none⟩) ((n + 63) / 64) ((n + 63) / 64)) ∧ Row w' w.heap.size l ∧ l.length = (n + 63) / 64 ∧ W64 l ∧ (∀ i : Nat, hs l i = (decide (i < n) && ((decide (fr ≤ (i : Int)) && decide ((i : Int) < to)) == inb))) ∧ Keep w w' := by
  obtain ⟨m, hm⟩ : ∃ m, (n + 63) / 64 = m := ⟨_, rfl⟩
  have hmi : ((n : Int) + 63) / 64 = (m : Int) := by omega
  rw [hm]
  go_enter Tryd.func69, Tryd.ntmps69
  go_wp2_with (at_make; refine wpList_make64 _ rfl _ _ rfl _ _ _ _ m rfl rfl (by first | rfl | exact hmi) (by first | rfl | exact hmi) (by omega) ?_; intro w1 hrow hk hsz)
  go_loopw [10] (fun i wr => ∃ (k : Nat) (rk : List Nat), k ≤ n ∧ i = .int .i64 k ∧ Row wr w.heap.size rk ∧ Hid (rk.length = m) ∧ Hid (W64 rk) ∧ Hid (∀ j : Nat, hs rk j = (decide (j < k) && ((decide (fr ≤ (j : Int)) && decide ((j : Int) < to)) == inb))) ∧ Keep w wr) (fun i _ => n - (intOf i).toNat)
  case atStart => exact ⟨0, _, by omega, rfl, hrow, by show _ = _; simp, W64_rep _, by show ∀ j, _; intro j; simp [hs_rep], hk⟩
  case round =>
    obtain ⟨k, rk, hkk, rfl, hrk, hlen, hw64, hbits, hkp⟩ := hrel
    by_cases hkl : k < n
    · obtain ⟨q, hq⟩ : ∃ q, k / 64 = q := ⟨_, rfl⟩
      obtain ⟨r, hr⟩ : ∃ r, k % 64 = r := ⟨_, rfl⟩
      have hqi : (k : Int) / 64 = (q : Int) := by omega
      have hri : (k : Int) % 64 = (r : Int) := by omega
      have hqm : q < m := by omega
      have hr64 : r < 64 := by omega
      have hc := hrk.cell q (by rw [hlen.out]; omega)
      have hfz := hrk.frozen q
      have hxl := W64_getD hw64.out q
      obtain ⟨x, hx⟩ : ∃ x, rk.getD q 0 = x := ⟨_, rfl⟩
      rw [hx] at hc hxl
      have Hin : Hid (((decide (fr ≤ (k : Int)) && decide ((k : Int) < to)) == inb) = true → ∀ j : Nat, hs (rk.set q (x ||| 2 ^ r)) j = (decide (j < k + 1) && ((decide (fr ≤ (j : Int)) && decide ((j : Int) < to)) == inb))) := fun e =>
        step_in (f := fun j : Nat => ((decide (fr ≤ (j : Int)) && decide ((j : Int) < to)) == inb)) hq hr hx (by rw [hlen.out]; exact hqm) hbits.out e
      have Hout : Hid (((decide (fr ≤ (k : Int)) && decide ((k : Int) < to)) == inb) = false → ∀ j : Nat, hs rk j = (decide (j < k + 1) && ((decide (fr ≤ (j : Int)) && decide ((j : Int) < to)) == inb))) := fun e =>
        step_out (f := fun j : Nat => ((decide (fr ≤ (j : Int)) && decide ((j : Int) < to)) == inb)) hbits.out e
      have Hor := orbit hxl hr64
      have hwl := or_lt hxl (bit_lt hr64)
      clear hx hq hr
      by_cases h1 : fr ≤ (k : Int) <;> by_cases h2 : (k : Int) < to <;> cases inb
      all_goals go_wp2_with fail
      all_goals go_roundw
      all_goals first
        | (case measure => simp [intOf]; omega)
        | skip
      all_goals first
        | exact ⟨k + 1, rk, by omega, by go_num, hrk, hlen, hw64, Hout.out (by simp [h1, h2]), hkp⟩
        | exact ⟨k + 1, rk.set q (x ||| 2 ^ r), by omega, by go_num, hrk.set q _, by show _ = _; rw [List.length_set]; exact hlen.out, W64_set hw64.out q hwl, Hin.out (by simp [h1, h2]), hkp.setCell (Nat.le_refl _) _⟩
        | (simp [intOf]; omega)
    · go_wp2_with fail
      go_ret
      have hke : k = n := by omega
      subst hke
      exact ⟨rk, rfl, hrk, hlen, hw64, hbits.out, hkp⟩
end Go.Proofs.YtcdcheecaphmgaaDoor.Bi
