import Derived.Test.YtjiflgdbgpegiaaSB11
set_option linter.unusedVariables false
set_option linter.unusedSimpArgs false
namespace Go.Proofs.Ytjiflgdbgpegiaa
open Go.RowKit
/-- How many come ahead. -/
def blw (l : List Nat) (y : Nat) : Nat := (l.filter fun x => decide (key x < key y)).length
theorem blw_le (l : List Nat) (y : Nat) : blw l y ≤ l.length := List.length_filter_le _ _
theorem blw_step (l : List Nat) (y i : Nat) (hi : i < l.length) : blw (l.take (i + 1)) y = blw (l.take i) y + if key (l.getD i 0) < key y then 1 else 0 := by
  unfold blw
  rw [List.take_add_one, List.filter_append, List.length_append]
  congr 1
  simp [List.getD, hi]
  split <;> simp [*]
set_option maxRecDepth 100000 in
theorem Below_any (g c n y : Nat) (l : List Nat) (w : World) (hF : F64 l) (hn : l.length = n) (hl : n ≤ 17592186044416) (hy : y < 18446744073709551616) (hA : Arr w g l) :
    Calls Try.prog 44 #[.slice (some ⟨g, 0, none⟩) n c, .float .f64 y] w fun e w' => e = .returned (.int .i64 (blw l y : Int)) ∧ w' = w := by
  have hK := fun x wx (hx : x < 18446744073709551616) => Key_any x wx hx
  have HF : Hid (∀ i, i < n → l.getD i 0 < 18446744073709551616) := fun i hi => hF.at i (by omega)
  have HC : Hid (∀ i, i < n → w.cell? ⟨g, i, none⟩ = some (.float .f64 (l.getD i 0))) := fun i hi => Arr.cell hA (by omega)
  have HN : Hid (l.length = n) := hn
  clear hF hA hn
  go_enter Try.func44, Try.ntmps44
  go_wp2_with (go_at_call 14; refine (hK _ _ (by omega)).mono ?_; rintro e w2 ⟨rfl, rfl⟩)
  go_loopw [5, 13] (fun kv iv wr => ∃ i k : Nat, iv = .int .i64 (i : Int) ∧ kv = .int .i64 (k : Int) ∧ i ≤ n ∧ k ≤ n ∧ Hid (blw (l.take i) y = k) ∧ wr = w2) (fun _ iv _ => n - (intOf iv).toNat)
  case atStart => exact ⟨0, 0, rfl, rfl, by omega, by omega, rfl, rfl⟩
  case round =>
    obtain ⟨i, k, rfl, rfl, hi, hk, H, rfl⟩ := hrel
    by_cases hin : i < n
    · have hic : (i : Int) < (n : Int) := by omega
      have cx := HC.out i hin
      have hx := HF.out i hin
      have hst := blw_step l y i (by rw [HN.out]; exact hin)
      rw [H.out] at hst
      have hle := blw_le (l.take (i + 1)) y
      rw [List.length_take] at hle
      obtain ⟨x, hx0⟩ : ∃ x, l.getD i 0 = x := ⟨_, rfl⟩
      rw [hx0] at cx hx hst
      have hKx := fun wx => hK x wx hx
      by_cases hlt : key x < key y
      · rw [if_pos hlt] at hst
        have hk1 : k + 1 ≤ n := by omega
        have HH : Hid (blw (l.take (i + 1)) y = k + 1) := hst
        have hltc : (key x : Int) < (key y : Int) := by omega
        clear hst hle hx0
        go_wp2_with (go_at_call 14; refine (hKx _).mono ?_; rintro e w3 ⟨rfl, rfl⟩)
        refine ⟨⟨i + 1, k + 1, by go_num, by go_num, by omega, hk1, HH, by trivial⟩, ?_⟩
        simp [intOf]; omega
      · rw [if_neg hlt] at hst
        have HH : Hid (blw (l.take (i + 1)) y = k) := hst
        have hltc : ¬ (key x : Int) < (key y : Int) := by omega
        clear hst hle hx0
        go_wp2_with (go_at_call 14; refine (hKx _).mono ?_; rintro e w3 ⟨rfl, rfl⟩)
        refine ⟨⟨i + 1, k, by go_num, rfl, by omega, hk, HH, by trivial⟩, ?_⟩
        simp [intOf]; omega
    · have hic : ¬ (i : Int) < (n : Int) := by omega
      obtain rfl : i = n := by omega
      go_wp2_with fail
      go_ret
      have := H.out
      rw [← HN.out, List.take_length] at this
      exact ⟨by rw [this]; rfl, rfl⟩
/-- A list of bits that can be read, nil or not. -/
def RdU (w : World) (p : Option Addr) (l : List Nat) : Prop := ∀ i, i < l.length → ∃ g o, p = some ⟨g, o, none⟩ ∧ w.cell? ⟨g, o + i, none⟩ = some (.int .u64 ((l.getD i 0 : Nat) : Int))
set_option maxRecDepth 100000 in
theorem rBelow_any (p : Option Addr) (c n y : Nat) (l : List Nat) (w : World) (hF : F64 l) (hn : l.length = n) (hl : n ≤ 17592186044416) (hy : y < 18446744073709551616) (hA : RdU w p l) :
    Calls Try.prog 45 #[.slice p n c, .int .u64 (y : Int)] w fun e w' => e = .returned (.int .i64 (blw l y : Int)) ∧ w' = w := by
  have hK := fun x wx (hx : x < 18446744073709551616) => rKey_any x wx hx
  have HF : Hid (∀ i, i < n → l.getD i 0 < 18446744073709551616) := fun i hi => hF.at i (by omega)
  have HC : Hid (∀ i, i < n → ∃ g o, p = some ⟨g, o, none⟩ ∧ w.cell? ⟨g, o + i, none⟩ = some (.int .u64 ((l.getD i 0 : Nat) : Int))) := fun i hi => hA i (by omega)
  have HN : Hid (l.length = n) := hn
  clear hF hA hn
  go_enter Try.func45, Try.ntmps45
  go_wp2_with fail
  go_loopw [5, 6] (fun kv iv wr => ∃ i k : Nat, iv = .int .i64 (i : Int) ∧ kv = .int .i64 (k : Int) ∧ i ≤ n ∧ k ≤ n ∧ Hid (blw (l.take i) y = k) ∧ wr = w) (fun _ iv _ => n - (intOf iv).toNat)
  case atStart => exact ⟨0, 0, rfl, rfl, by omega, by omega, rfl, rfl⟩
  case round =>
    obtain ⟨i, k, rfl, rfl, hi, hk, H, rfl⟩ := hrel
    by_cases hin : i < n
    · have hic : (i : Int) < (n : Int) := by omega
      obtain ⟨g, o, rfl, cx⟩ := HC.out i hin
      have hx := HF.out i hin
      have hst := blw_step l y i (by rw [HN.out]; exact hin)
      rw [H.out] at hst
      have hle := blw_le (l.take (i + 1)) y
      rw [List.length_take] at hle
      obtain ⟨x, hx0⟩ : ∃ x, l.getD i 0 = x := ⟨_, rfl⟩
      rw [hx0] at cx hx hst
      have hKx := fun wx => hK x wx hx
      have hKy := fun wx => hK y wx hy
      by_cases hlt : key x < key y
      · rw [if_pos hlt] at hst
        have hk1 : k + 1 ≤ n := by omega
        have HH : Hid (blw (l.take (i + 1)) y = k + 1) := hst
        have hltc : (key x : Int) < (key y : Int) := by omega
        clear hst hle hx0
        go_wp2_with (go_at_call 16; refine (hK _ _ (by assumption)).mono ?_; rintro e w3 ⟨rfl, rfl⟩)
        all_goals
          go_wp2_with fail
          refine ⟨⟨i + 1, k + 1, by go_num, by go_num, by omega, hk1, HH, by trivial⟩, ?_⟩
          simp [intOf]; omega
      · rw [if_neg hlt] at hst
        have HH : Hid (blw (l.take (i + 1)) y = k) := hst
        have hltc : ¬ (key x : Int) < (key y : Int) := by omega
        clear hst hle hx0
        go_wp2_with (go_at_call 16; refine (hK _ _ (by assumption)).mono ?_; rintro e w3 ⟨rfl, rfl⟩)
        all_goals
          go_wp2_with fail
          refine ⟨⟨i + 1, k, by go_num, rfl, by omega, hk, HH, by trivial⟩, ?_⟩
          simp [intOf]; omega
    · have hic : ¬ (i : Int) < (n : Int) := by omega
      obtain rfl : i = n := by omega
      go_wp2_with fail
      go_ret
      have := H.out
      rw [← HN.out, List.take_length] at this
      exact ⟨by rw [this]; rfl, rfl⟩
end Go.Proofs.Ytjiflgdbgpegiaa
