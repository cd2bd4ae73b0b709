import Derived.Test.YtgmnadlmejkkpaaDoorH6
import Derived.Deep.RegionWith
set_option linter.unusedVariables false
set_option linter.unusedSimpArgs false
namespace Go.Proofs.YtgmnadlmejkkpaaDoor
open Go.RowKit
/-- A text's bytes. -/
def bt (s : ByteArray) (i : Nat) : Nat := if h : i < s.size then (s[i]'h).toNat else 0
theorem bt_eq {s : ByteArray} {i : Nat} (h : i < s.size) : bt s i = (s[i]'h).toNat := by unfold bt; rw [dif_pos h]
def Good (s : ByteArray) (k : Nat) : Prop := ∀ i, i < k → bt s i = 48 ∨ bt s i = 49
/-- What Read answers. -/
def RdA (w w' : World) (e : Ending) (s : ByteArray) : Prop :=
  (Good s s.size ∧ ∃ a c l, e = .returned (.tuple #[.slice a l.length c, .int .i64 (s.size : Nat), .int .i64 0, .int .i64 0]) ∧ Rd w' a l ∧ mkl s.size (fun i => bt s i == 49) l ∧ Keep w w') ∨
  (∃ p : Nat, p < s.size ∧ Good s p ∧ bt s p ≠ 48 ∧ bt s p ≠ 49 ∧ e = .returned (.tuple #[.slice none 0 0, .int .i64 0, .int .i64 50, .int .i64 (p : Nat)]) ∧ Keep w w')
theorem Good.succ {s : ByteArray} {k : Nat} (h : Good s k) (hk : bt s k = 48 ∨ bt s k = 49) : Good s (k + 1) := by
  intro i hi
  by_cases e : i = k
  · rw [e]; exact hk
  · exact h i (by omega)
set_option maxRecDepth 100000 in
set_option maxHeartbeats 1000000 in
theorem Read_ok (s : ByteArray) (w : World) (hs0 : s.size ≤ 1048576) :
    Calls Tryd.prog 50 #[.string s] w fun e w' => RdA w w' e s := by
  have hE := Empty_ok s.size w hs0
  obtain ⟨m, hm⟩ : ∃ m, (s.size + 63) / 64 = m := ⟨_, rfl⟩
  rw [hm] at hE
  have Hm : Hid ((s.size + 63) / 64 = m) := hm
  go_enter Tryd.func50, Tryd.ntmps50
  go_wp2_with (go_at_call 14; refine hE.mono ?_; rintro e w1 ⟨rfl, hr1, hk1, hs1⟩; clear hE)
  go_loopw [20] (fun i wr => ∃ (k : Nat) (rk : List Nat), k ≤ s.size ∧ i = .int .i64 k ∧ Hid (Good s k) ∧ Row wr w.heap.size rk ∧ Hid (rk.length = m) ∧ Hid (W64 rk) ∧ Hid (∀ j : Nat, hs rk j = (decide (j < k) && (bt s j == 49))) ∧ Keep w wr) (fun i _ => s.size - (intOf i).toNat)
  case atStart => exact ⟨0, _, by omega, rfl, fun i hi => absurd hi (by omega), hr1, by show _ = _; simp, W64_rep _, by show ∀ j, _; intro j; simp [hs_rep], hk1⟩
  case round =>
    clear hr1 hk1
    obtain ⟨k, rk, hkk, rfl, hgd, hrk, hlen, hw64, hbits, hkp⟩ := hrel
    by_cases hkl : k < s.size
    · obtain ⟨b, hb⟩ : ∃ b, (s[k]'hkl).toNat = b := ⟨_, rfl⟩
      have Hbt : Hid (bt s k = b) := (bt_eq hkl).trans hb
      obtain ⟨q, hq⟩ : ∃ q, k / 64 = q := ⟨_, rfl⟩
      obtain ⟨r, hr⟩ : ∃ r, k % 64 = r := ⟨_, rfl⟩
      have hqi : (k : Int) / 64 = (q : Int) := by omega
      have hri : (k : Int) % 64 = (r : Int) := by omega
      have hqm : q < m := by omega
      have hr64 : r < 64 := by omega
      by_cases h0 : b = 48
      · subst h0
        have Hout : Hid (∀ j : Nat, hs rk j = (decide (j < k + 1) && (bt s j == 49))) := step_out hbits.out (by rw [Hbt.out]; rfl)
        clear hq hr
        go_wp2_with fail
        go_roundw
        case rel => exact ⟨k + 1, rk, by omega, by go_num, hgd.out.succ (.inl Hbt.out), hrk, hlen, hw64, Hout, hkp⟩
        case measure => simp [intOf]; omega
      · by_cases h1 : b = 49
        · subst h1
          have hc := hrk.cell q (by rw [hlen.out]; omega)
          have hfz := hrk.frozen q
          have hxl := W64_getD hw64.out q
          obtain ⟨x, hx⟩ : ∃ x, rk.getD q 0 = x := ⟨_, rfl⟩
          rw [hx] at hc hxl
          have Hin : Hid (∀ j : Nat, hs (rk.set q (x ||| 2 ^ r)) j = (decide (j < k + 1) && (bt s j == 49))) := step_in hq hr hx (by rw [hlen.out]; exact hqm) hbits.out (by rw [Hbt.out]; rfl)
          have Hor := orbit hxl hr64
          have hwl := or_lt hxl (bit_lt hr64)
          have htm : (k : Int).tmod 64 = (r : Int) := by rw [Int.tmod_eq_emod_of_nonneg (by omega)]; exact hri
          have htd : (k : Int).tdiv 64 = (q : Int) := by rw [Int.tdiv_eq_ediv_of_nonneg (by omega)]; exact hqi
          have hw1 : IntKind.i64.wrap (q : Int) = (q : Int) := by rw [IntKind.wrap_i64]; omega
          have hr0 : ¬ (r : Int) < 0 := by omega
          have hrm : min r 64 = r := by omega
          have hp1 : (1 : Int) * 2 ^ r = 2 ^ r := by rw [Int.one_mul]
          clear hx hq hr h0
          go_wp2_with fail
          go_region_with fail
          all_goals
            go_simp
            go_wp2_with fail
            go_roundw
            case rel => exact ⟨k + 1, rk.set q (x ||| 2 ^ r), by omega, by go_num, hgd.out.succ (.inr Hbt.out), hrk.set q _, by show _ = _; rw [List.length_set]; exact hlen.out, W64_set hw64.out q hwl, Hin, by first | exact (hkp.setCell (Nat.le_refl _) _).drew | exact hkp.drew.setCell (Nat.le_refl _) _⟩
            case measure => simp [intOf]; omega
        · have g0 : (((b : Nat) : Int) == 48) = false := by rw [beq_eq_false_iff_ne]; omega
          have g1 : (((b : Nat) : Int) == 49) = false := by rw [beq_eq_false_iff_ne]; omega
          clear hq hr
          go_wp2_with fail
          refine bodyPost_ret (v := .tuple #[.slice none 0 0, .int .i64 0, .int .i64 50, .int .i64 (k : Nat)]) (by simp [results, Tryd.results50, go_sem]) rfl ?_
          exact .inr ⟨k, hkl, hgd.out, by rw [Hbt.out]; exact h0, by rw [Hbt.out]; exact h1, rfl, hkp⟩
    · have hke : k = s.size := by omega
      go_wp2_with fail
      refine bodyPost_ret (v := .tuple #[.slice (some ⟨w.heap.size, 0, none⟩) m m, .int .i64 (s.size : Nat), .int .i64 0, .int .i64 0]) (by simp [results, Tryd.results50, go_sem]) rfl ?_
      refine .inl ⟨hke ▸ hgd.out, some ⟨w.heap.size, 0, none⟩, m, rk, by rw [hlen.out], ?_, ⟨by rw [hlen.out, Hm.out], hw64.out, ?_⟩, hkp⟩
      · have := hrk.rd 0 rk.length (by omega)
        rw [List.drop_zero, List.take_of_length_le (Nat.le_refl _)] at this
        exact this
      · intro i; rw [hbits.out, hke]
theorem Read_no (s : ByteArray) (w : World) (hs0 : 1048576 < s.size) (hs1 : s.size ≤ 9223372036854775807) :
    Calls Tryd.prog 50 #[.string s] w fun e w' => e = .returned (.tuple #[.slice none 0 0, .int .i64 0, .int .i64 2, .int .i64 0]) ∧ w' = w := by
  have hE := Empty_no (s.size : Int) w (by omega)
  go_enter Tryd.func50, Tryd.ntmps50
  go_wp2_with (go_at_call 14; refine hE.mono ?_; rintro e w1 ⟨rfl, rfl⟩)
  refine bodyPost_ret (v := .tuple #[.slice none 0 0, .int .i64 0, .int .i64 2, .int .i64 0]) (by simp [results, Tryd.results50, go_sem]) rfl ?_
  exact ⟨rfl, rfl⟩
end Go.Proofs.YtgmnadlmejkkpaaDoor
