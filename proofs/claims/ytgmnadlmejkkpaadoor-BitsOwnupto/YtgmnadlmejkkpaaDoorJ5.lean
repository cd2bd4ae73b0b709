import Derived.Test.YtgmnadlmejkkpaaDoorJ4
set_option linter.unusedVariables false
set_option linter.unusedSimpArgs false
namespace Go.Proofs.YtgmnadlmejkkpaaDoor
open Go.RowKit
/-- The two readings answer alike. -/
def RdR (w w' : World) (e : Ending) (L : List Nat) (n E p : Int) : Prop := ∃ a c, e = .returned (.tuple #[.slice a L.length c, .int .i64 n, .int .i64 E, .int .i64 p]) ∧ Rd w' a L ∧ Keep w w'
theorem RdA.one {s : ByteArray} (h : s.size ≤ 1048576) : ∃ (L : List Nat) (n E p : Int), L.length ≤ 16384 ∧ ∀ (w w' : World) (e : Ending), RdA w w' e s → RdR w w' e L n E p := by
  by_cases hg : Good s s.size
  · obtain ⟨L, hL⟩ : ∃ L, mkl s.size (fun i => bt s i == 49) L ∨ ¬ ∃ L, mkl s.size (fun i => bt s i == 49) L := by
      by_cases he : ∃ L, mkl s.size (fun i => bt s i == 49) L
      · obtain ⟨L, h⟩ := he; exact ⟨L, .inl h⟩
      · exact ⟨[], .inr he⟩
    rcases hL with hL | hL
    · refine ⟨L, s.size, 0, 0, by rw [hL.1]; omega, ?_⟩
      intro w w' e ha
      rcases ha with ⟨-, a, c, l, rfl, h1, h2, h3⟩ | ⟨p, hp, -, h1, h2, -⟩
      · obtain rfl := mkl_eq h2 hL
        exact ⟨a, c, rfl, h1, h3⟩
      · exfalso
        rcases hg p hp with e | e
        · exact h1 e
        · exact h2 e
    · refine ⟨[], 0, 0, 0, by simp, ?_⟩
      intro w w' e ha
      rcases ha with ⟨-, a, c, l, rfl, h1, h2, h3⟩ | ⟨p, hp, -, h1, h2, -⟩
      · exact absurd ⟨l, h2⟩ hL
      · exfalso
        rcases hg p hp with e | e
        · exact h1 e
        · exact h2 e
  · by_cases hb : ∃ p, p < s.size ∧ Good s p ∧ bt s p ≠ 48 ∧ bt s p ≠ 49
    · obtain ⟨p, q1, q2, q3, q4⟩ := hb
      refine ⟨[], 0, 50, p, by simp, ?_⟩
      intro w w' e ha
      rcases ha with ⟨h, -⟩ | ⟨p', hp, h0, h1, h2, rfl, k⟩
      · exact absurd h hg
      · have : p' = p := by
          rcases Nat.lt_trichotomy p' p with e | e | e
          · exfalso; rcases q2 p' e with e | e
            · exact h1 e
            · exact h2 e
          · exact e
          · exfalso; rcases h0 p e with e | e
            · exact q3 e
            · exact q4 e
        subst this
        exact ⟨none, 0, rfl, Rd.nil _ _, k⟩
    · refine ⟨[], 0, 0, 0, by simp, ?_⟩
      intro w w' e ha
      rcases ha with ⟨h, -⟩ | ⟨p', hp, h0, h1, h2, -⟩
      · exact absurd h hg
      · exact absurd ⟨p', hp, h0, h1, h2⟩ hb
theorem reads_one (s : ByteArray) (hs : s.size ≤ 9223372036854775807) : ∃ (L : List Nat) (n E p : Int), L.length ≤ 16384 ∧ (∀ w, Calls Tryd.prog 50 #[.string s] w fun e w' => RdR w w' e L n E p) ∧ (∀ w, Calls Tryd.prog 51 #[.string s] w fun e w' => RdR w w' e L n E p) := by
  by_cases h : s.size ≤ 1048576
  · obtain ⟨L, n, E, p, h1, h2⟩ := RdA.one h
    exact ⟨L, n, E, p, h1, fun w => (Read_ok s w h).mono fun e w' ha => h2 w w' e ha, fun w => (rRead_ok s w h).mono fun e w' ha => h2 w w' e ha⟩
  · refine ⟨[], 0, 2, 0, by simp, fun w => (Read_no s w (by omega) hs).mono ?_, fun w => (rRead_no s w (by omega) hs).mono ?_⟩
    · rintro e w' ⟨rfl, rfl⟩
      exact ⟨none, 0, rfl, Rd.nil _ _, Keep.refl _⟩
    · rintro e w' ⟨rfl, rfl⟩
      exact ⟨none, 0, rfl, Rd.nil _ _, Keep.refl _⟩
set_option maxRecDepth 100000 in
set_option maxHeartbeats 1000000 in
theorem law_texts (a : Option Addr) (ca : Nat) (l : List Nat) (n : Int) (s : ByteArray) (w : World) (hl : l.length ≤ 17592186044416) (hnb : n ≤ 9223372036854775807) (hs : s.size ≤ 9223372036854775807) (ha : Rd w a l) (hw : W64 l) (hT : Tab w) :
    Calls Tryd.prog 7 #[.slice a l.length ca, .int .i64 n, .string s] w fun e w' => e = .returned (.bool true) ∧ Keep w w' := by
  have P1 := Print_any a ca l n w hl ha hw
  have P2 := fun wx (h : Keep w wx) => rPrint_any a ca l n wx hl hnb (ha.keep h) hw
  obtain ⟨L, m, E, p, hL, R1, R2⟩ := reads_one s hs
  generalize prS l n = S at *
  generalize prE l n = PE at *
  go_enter Tryd.func7, Tryd.ntmps7
  go_wp2_with fail
  refine P1.mono ?_
  rintro e w1 ⟨rfl, k1⟩
  go_wp2_with fail
  refine (P2 w1 k1).mono ?_
  rintro e w2 ⟨rfl, k2⟩
  have t2 := k1.trans k2
  go_wp2_with fail
  refine (R1 w2).mono ?_
  rintro e w3 ⟨a3, c3, rfl, r3, k3⟩
  have t3 := t2.trans k3
  go_wp2_with fail
  refine (R2 w3).mono ?_
  rintro e w4 ⟨a4, c4, rfl, r4, k4⟩
  have t4 := t3.trans k4
  have hLv := lives_any w4 (hT.keep t4)
  have hS := fun wx (h : Keep w4 wx) => Same_any a3 a4 c3 c4 L wx (by omega) (r3.keep (k4.trans h)) (r4.keep h)
  clear P1 P2 R1 R2
  go_wp2_with fail
  refine hLv.mono ?_
  rintro e w5 ⟨rfl, k5⟩
  go_wp2_with fail
  refine (hS w5 k5).mono ?_
  rintro e w6 ⟨rfl, k6⟩
  go_wp2_with fail
  go_ret
  exact ⟨rfl, t4.trans (k5.trans k6)⟩
end Go.Proofs.YtgmnadlmejkkpaaDoor
