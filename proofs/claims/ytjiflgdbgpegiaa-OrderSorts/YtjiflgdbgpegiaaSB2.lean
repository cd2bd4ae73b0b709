import Derived.Test.YtjiflgdbgpegiaaSB1
set_option linter.unusedVariables false
set_option linter.unusedSimpArgs false
namespace Go.Proofs.Ytjiflgdbgpegiaa
open Go.RowKit
attribute [local go_sem] run_store_float
abbrev cmpF : Value := .func (.func 18) #[] #[]
set_option maxRecDepth 100000 in
set_option maxHeartbeats 2000000 in
/-- Two stretches exchanged. -/
theorem swapRange_any (g c a b n : Nat) (l : List Nat) (w : World) (hl : l.length ≤ 17592186044416) (hab : a + n ≤ b) (hb : b + n ≤ l.length) (hA : Arr w g l) :
    Calls Try.prog 95 #[.slice (some ⟨g, 0, none⟩) l.length c, .int .i64 (a : Int), .int .i64 (b : Int), .int .i64 (n : Int), cmpF] w fun e w' => (∃ v, e = .returned v) ∧ Arr w' g (swF 0 l a b n) ∧ Oth g w w' := by
  go_enter Try.func95, Try.ntmps95
  go_wp2_with fail
  go_loopw [10] (fun iv wr => ∃ k : Nat, iv = .int .i64 k ∧ k ≤ n ∧ Arr wr g (swF 0 l a b k) ∧ Oth g w wr) (fun iv _ => n - (intOf iv).toNat)
  case atStart => exact ⟨0, rfl, by omega, by rw [swF_zero]; exact hA, Oth.refl _ _⟩
  case round =>
    obtain ⟨k, rfl, hk, hr, ko⟩ := hrel
    by_cases hkl : k < n
    · have hkc : (k : Int) < (n : Int) := by omega
      have hA1 := hr.cell (j := a + k) (by rw [swF_len]; omega)
      have hB1 := hr.cell (j := b + k) (by rw [swF_len]; omega)
      have f1 := hr.frozen (a + k)
      have f2 := hr.frozen (b + k)
      obtain ⟨x, hx⟩ : ∃ x, (swF 0 l a b k).getD (a + k) 0 = x := ⟨_, rfl⟩
      obtain ⟨y, hy⟩ : ∃ y, (swF 0 l a b k).getD (b + k) 0 = y := ⟨_, rfl⟩
      have hnx := swF_next 0 l a b k (by omega) (by omega)
      rw [hx, hy] at hnx
      rw [hx] at hA1
      rw [hy] at hB1
      obtain ⟨q1, q2⟩ := hr.swap ko (a + k) (b + k) (x := x) (y := y)
      rw [hnx] at q1
      have c1 : (a : Int) + (k : Int) < (l.length : Int) := by omega
      have c2 : (b : Int) + (k : Int) < (l.length : Int) := by omega
      have HK : Hid (k < n) := hkl
      replace q1 : Hid _ := q1
      replace q2 : Hid _ := q2
      clear hx hy hnx hkl hr ko
      go_wp2_with fail
      go_region
      all_goals
        go_wp2_with fail
        go_roundw
        case rel => exact ⟨k + 1, by go_num, by have := HK.out; omega, Arr.drew q1.out, Oth.drew q2.out⟩
        case measure => have := HK.out; simp [intOf]; omega
    · have hkc : ¬ (k : Int) < (n : Int) := by omega
      obtain rfl : k = n := by omega
      go_wp2_with fail
      go_end0
      exact ⟨⟨_, rfl⟩, hr, ko⟩
end Go.Proofs.Ytjiflgdbgpegiaa
