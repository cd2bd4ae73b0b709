import Derived.Test.YtmhgpgdekaeegaaDoorProg
import Derived.Test.YtmhgpgdekaeegaaDoorBB2
import Derived.WalkKit
import Derived.WalkSpells
import Derived.WalkLawsBesides
import Derived.Laws.CopyOwn
import Derived.Deep.Draws
import Derived.Deep.QuietTactic
import Derived.BigQuiet
import Derived.Deep.RegionWith
import Derived.Deep.RegionHeld3
set_option linter.unusedVariables false
set_option linter.unusedSimpArgs false
namespace Go.Proofs.YtmhgpgdekaeegaaDoor.Bi
open Go.RowKit
set_option maxRecDepth 100000 in
set_option maxHeartbeats 400000 in
theorem fill_any (g c a b : Nat) (l : List Nat) (w : World) (hrow : Row w g l) (hl : l.length ≤ 1048576) (hw : W64 l) (hb : b ≤ 64 * l.length) :
    Calls Tryd.prog 16 #[.slice (some ⟨g, 0, none⟩) l.length c, .int .i64 (a : Nat), .int .i64 (b : Nat)] w fun e w' => ∃ l' : List Nat, e = .returned (.tuple #[]) ∧ Row w' g l' ∧ l'.length = l.length ∧ W64 l' ∧ (∀ j, hs l' j = (hs l j || decide (a ≤ j ∧ j < b))) ∧ Mut g w w' := by
  obtain ⟨L, hL⟩ : ∃ L, l.length = L := ⟨_, rfl⟩
  rw [hL] at hl hb ⊢
  have HL : Hid (l.length = L) := hL
  clear hL
  go_enter Tryd.func16, Tryd.ntmps16
  go_wp2_with fail
  go_loopw [1] (fun i wr => ∃ (k : Nat) (rk : List Nat), i = .int .i64 k ∧ Hid (a ≤ k ∧ (k ≤ b ∨ k = a)) ∧ Row wr g rk ∧ Hid (rk.length = L) ∧ Hid (W64 rk) ∧ Hid (∀ j, hs rk j = (hs l j || decide (a ≤ j ∧ j < k ∧ j < b))) ∧ Mut g w wr) (fun i _ => b - (intOf i).toNat)
  case atStart => exact ⟨a, l, rfl, ⟨Nat.le_refl _, .inr rfl⟩, hrow, HL, hw, by show ∀ j, _; intro j; rw [decide_eq_false (by omega), Bool.or_false], Mut.refl _ _⟩
  case round =>
    obtain ⟨k, rk, rfl, hak, hrk, hlen, hw64, hbits, hm⟩ := hrel
    by_cases hkl : k < b
    · obtain ⟨q, hq⟩ : ∃ q, k / 64 = q := ⟨_, rfl⟩
      obtain ⟨r, hr⟩ : ∃ r, k % 64 = r := ⟨_, rfl⟩
      have hqi : (k : Int) / 64 = (q : Int) := by omega
      have hri : (k : Int) % 64 = (r : Int) := by omega
      have hqm : q < L := by omega
      have hr64 : r < 64 := by omega
      have hc := hrk.cell q (by rw [hlen.out]; omega)
      have hfz := hrk.frozen q
      have hxl := W64_getD hw64.out q
      obtain ⟨x, hx⟩ : ∃ x, rk.getD q 0 = x := ⟨_, rfl⟩
      rw [hx] at hc hxl
      have Hrun : Hid (∀ e, k ≤ e → e ≤ (q + 1) * 64 → e ≤ b → (bits .or .u64 (x : Int) (IntKind.u64.wrap (((2 ^ (e - k) - 1 : Nat) : Int) * 2 ^ r)) = ((x ||| (2 ^ (e - k) - 1) * 2 ^ r : Nat) : Int)) ∧ x ||| (2 ^ (e - k) - 1) * 2 ^ r < 18446744073709551616 ∧ ∀ j, hs (rk.set q (x ||| (2 ^ (e - k) - 1) * 2 ^ r)) j = (hs l j || decide (a ≤ j ∧ j < e ∧ j < b))) := by
        show ∀ e, _
        intro e h1 h2 h3
        have hlt := run_lt (a := k) (b := e) (by omega) h1
        rw [hr] at hlt
        have hwr : IntKind.u64.wrap (((2 ^ (e - k) - 1 : Nat) : Int) * 2 ^ r) = (((2 ^ (e - k) - 1) * 2 ^ r : Nat) : Int) := by
          rw [IntKind.wrap_u64, show ((2 ^ (e - k) - 1 : Nat) : Int) * 2 ^ r = (((2 ^ (e - k) - 1) * 2 ^ r : Nat) : Int) by push_cast; rfl]
          generalize (2 ^ (e - k) - 1) * 2 ^ r = p at hlt ⊢
          omega
        refine ⟨by rw [hwr, u64_or_nat x _ hxl hlt], or_lt hxl hlt, ?_⟩
        intro j
        have := hs_run (l := rk) (a := k) (b := e) (by rw [hlen.out]; omega) (by omega) j
        rw [hq, hr, hx] at this
        rw [this, hbits.out, Bool.or_assoc, ← Bool.decide_or]
        congr 1
        rw [decide_eq_decide]
        have := hak.out
        omega
      clear hx
      by_cases hle : b ≤ (q + 1) * 64
      · have hO := fun w => ones_any (b - k) w (by omega)
        have hdi : (b : Int) - (k : Int) = ((b - k : Nat) : Int) := by omega
        obtain ⟨R1, R2, R3⟩ := Hrun.out b (by omega) (by omega) (by omega)
        have R3' : Hid (∀ j, hs (rk.set q (x ||| (2 ^ (b - k) - 1) * 2 ^ r)) j = (hs l j || decide (a ≤ j ∧ j < b ∧ j < b))) := R3
        have htm : (k : Int).tmod 64 = (r : Int) := by rw [Int.tmod_eq_emod_of_nonneg (by omega)]; exact hri
        clear R3 hq hr
        have hdb : b - k ≤ 64 := by omega
        generalize b - k = d at hO hdi R1 R2 R3' hdb
        have hwd : IntKind.i64.wrap (d : Int) = (d : Int) := by rw [IntKind.wrap_i64]; omega
        have hr0 : ¬ (r : Int) < 0 := by omega
        have hrm : min r 64 = r := by omega
        go_wp2_with fail
        go_region_with (go_at_call 28; refine (hO _).mono ?_; rintro e w' ⟨rfl, rfl⟩)
        all_goals go_simp
        all_goals go_wp2_with fail
        all_goals
          go_roundw
          case rel => exact ⟨b, rk.set q (x ||| (2 ^ d - 1) * 2 ^ r), rfl, by have := hak.out; exact ⟨by omega, .inl (Nat.le_refl _)⟩, hrk.set q _, by show _ = _; rw [List.length_set]; exact hlen.out, W64_set hw64.out q R2, R3', (hm.setCell q _).drew⟩
          case measure => simp [intOf]; omega
      · obtain ⟨E, hE⟩ : ∃ E, (q + 1) * 64 = E := ⟨_, rfl⟩
        have hEi : ((q : Int) + 1) * 64 = (E : Int) := by omega
        have hEb : E < b := by omega
        have hEk : k < E := by omega
        have hO := fun w => ones_any (E - k) w (by omega)
        have hdi : (E : Int) - (k : Int) = ((E - k : Nat) : Int) := by omega
        obtain ⟨R1, R2, R3⟩ := Hrun.out E (by omega) (by omega) (by omega)
        have R3' : Hid (∀ j, hs (rk.set q (x ||| (2 ^ (E - k) - 1) * 2 ^ r)) j = (hs l j || decide (a ≤ j ∧ j < E ∧ j < b))) := R3
        have htm : (k : Int).tmod 64 = (r : Int) := by rw [Int.tmod_eq_emod_of_nonneg (by omega)]; exact hri
        have hdb : E - k ≤ 64 := by omega
        have hle' : ¬ (b : Int) ≤ (E : Int) := by omega
        clear R3 hq hr hE
        generalize E - k = d at hO hdi R1 R2 R3' hdb
        have hwd : IntKind.i64.wrap (d : Int) = (d : Int) := by rw [IntKind.wrap_i64]; omega
        have hr0 : ¬ (r : Int) < 0 := by omega
        have hrm : min r 64 = r := by omega
        go_wp2_with fail
        go_region_with (go_at_call 28; refine (hO _).mono ?_; rintro e w' ⟨rfl, rfl⟩)
        all_goals go_simp
        all_goals go_wp2_with fail
        all_goals
          go_roundw
          case rel => exact ⟨E, rk.set q (x ||| (2 ^ d - 1) * 2 ^ r), rfl, by have := hak.out; exact ⟨by omega, .inl (by omega)⟩, hrk.set q _, by show _ = _; rw [List.length_set]; exact hlen.out, W64_set hw64.out q R2, R3', (hm.setCell q _).drew⟩
          case measure => simp [intOf]; omega
    · go_wp2_with fail
      go_end0
      refine ⟨rk, rfl, hrk, hlen.out, hw64.out, ?_, hm⟩
      intro j
      rw [hbits.out]
      congr 1
      rw [decide_eq_decide]
      have := hak.out
      omega
end Go.Proofs.YtmhgpgdekaeegaaDoor.Bi
