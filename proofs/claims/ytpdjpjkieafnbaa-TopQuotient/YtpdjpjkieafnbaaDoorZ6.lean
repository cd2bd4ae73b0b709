import Derived.Test.YtpdjpjkieafnbaaDoorR4
import Derived.BigQuiet
import Derived.Deep.LoopGhost
set_option linter.unusedVariables false
set_option linter.unusedSimpArgs false
namespace Go.Proofs.YtpdjpjkieafnbaaDoor.Li
open Go.RowKit Lb
/-- How many bytes two texts have in common at their beginnings. -/
def alk : List UInt8 → List UInt8 → Nat
  | a :: s, b :: t => if a = b then alk s t + 1 else 0
  | _, _ => 0
theorem alk_at (s t : List UInt8) (i : Nat) (h1 : i < s.length) (h2 : i < t.length) : alk (s.drop i) (t.drop i) = if s.getD i 0 = t.getD i 0 then alk (s.drop (i + 1)) (t.drop (i + 1)) + 1 else 0 := by
  rw [List.drop_eq_getElem_cons h1, List.drop_eq_getElem_cons h2]
  simp only [alk, List.getD, List.getElem?_eq_getElem h1, List.getElem?_eq_getElem h2, Option.getD_some]
theorem alk_nil (s t : List UInt8) (i : Nat) (h : s.length ≤ i ∨ t.length ≤ i) : alk (s.drop i) (t.drop i) = 0 := by
  rcases h with h | h
  · rw [List.drop_eq_nil_of_le h]; rfl
  · rw [List.drop_eq_nil_of_le h]
    cases s.drop i <;> rfl
theorem alk_le (s t : List UInt8) : alk s t ≤ s.length ∧ alk s t ≤ t.length := by
  induction s generalizing t with
  | nil => simp [alk]
  | cons a s ih =>
    cases t with
    | nil => simp [alk]
    | cons b t =>
      have := ih t
      simp only [alk, List.length_cons]
      split <;> omega
set_option maxRecDepth 100000 in
set_option maxHeartbeats 1000000 in
theorem alike_any (s t : List UInt8) (w : World) (hs : s.length ≤ 100000) (ht : t.length ≤ 100000) :
    Calls Tryd.prog 29 #[.string ⟨s.toArray⟩, .string ⟨t.toArray⟩] w fun e w' => e = .returned (.int .i64 (alk s t : Nat)) ∧ Keep w w' := by
  have z1 : (ByteArray.mk s.toArray).size = s.length := sz_mk s
  have z2 : (ByteArray.mk t.toArray).size = t.length := sz_mk t
  go_enter Tryd.func29, Tryd.ntmps29
  go_wp2_with fail
  go_loopw [5] (fun v5 wr => ∃ i : Nat, i ≤ s.length ∧ i ≤ t.length ∧ v5 = .int .i64 (i : Int) ∧ Hid (alk (s.drop i) (t.drop i) + i = alk s t) ∧ Keep w wr) (fun v5 _ => s.length - (intOf v5).toNat)
  case atStart => exact ⟨0, Nat.zero_le _, Nat.zero_le _, rfl, by unfold Hid; simp, Keep.refl _⟩
  case round =>
    obtain ⟨i, h1, h2, rfl, ha, kr⟩ := hrel
    by_cases c1 : i < s.length
    · have d1 : decide ((i : Int) < (s.length : Int)) = true := decide_eq_true (by omega)
      by_cases c2 : i < t.length
      · have d2 : decide ((i : Int) < (t.length : Int)) = true := decide_eq_true (by omega)
        have x1 := fun wx => run_ix s i c1 wx
        have x2 := fun wx => run_ix t i c2 wx
        have hst := alk_at s t i c1 c2
        by_cases c3 : s.getD i 0 = t.getD i 0
        · rw [if_pos c3] at hst
          rw [← c3] at x2
          have H2 : Hid (alk (s.drop (i + 1)) (t.drop (i + 1)) + (i + 1) = alk s t) := by
            have := ha.out
            unfold Hid
            omega
          obtain ⟨b, hb⟩ : ∃ b, (s.getD i 0).toNat = b := ⟨_, rfl⟩
          rw [hb] at x1 x2
          have d3 : ((b : Int) == (b : Int)) = true := by simp
          clear hst ha c3 hb
          go_wp2_with fail
          go_quiet (fail)
          go_wp2_with fail
          go_roundw
          case rel => exact ⟨i + 1, by omega, by omega, by go_num, H2, by first | exact kr | exact kr.drewN _ | exact kr.drew⟩
          case measure => simp [intOf]; omega
        · rw [if_neg c3] at hst
          have H2 : Hid (i = alk s t) := by
            have := ha.out
            unfold Hid
            omega
          obtain ⟨b, hb⟩ : ∃ b, (s.getD i 0).toNat = b := ⟨_, rfl⟩
          obtain ⟨c, hc⟩ : ∃ c, (t.getD i 0).toNat = c := ⟨_, rfl⟩
          have d3 : ((b : Int) == (c : Int)) = false := by
            rw [beq_eq_false_iff_ne]
            intro q
            apply c3
            apply UInt8.toNat_inj.1
            omega
          rw [hb] at x1
          rw [hc] at x2
          clear hst ha c3 hb hc
          go_wp2_with fail
          go_quiet (fail)
          go_wp2_with fail
          go_ret
          exact ⟨by rw [← H2.out]; rfl, by first | exact kr | exact kr.drewN _ | exact kr.drew⟩
      · have d2 : decide ((i : Int) < (t.length : Int)) = false := decide_eq_false (by omega)
        have H2 : Hid (i = alk s t) := by
          have := ha.out
          rw [alk_nil s t i (.inr (by omega))] at this
          unfold Hid
          omega
        clear ha
        go_wp2_with fail
        go_quiet (fail)
        go_wp2_with fail
        go_ret
        exact ⟨by rw [← H2.out]; rfl, by first | exact kr | exact kr.drewN _ | exact kr.drew⟩
    · have d1 : decide ((i : Int) < (s.length : Int)) = false := decide_eq_false (by omega)
      have H2 : Hid (i = alk s t) := by
        have := ha.out
        rw [alk_nil s t i (.inl (by omega))] at this
        unfold Hid
        omega
      clear ha
      go_wp2_with fail
      go_quiet (fail)
      go_wp2_with fail
      go_ret
      exact ⟨by rw [← H2.out]; rfl, by first | exact kr | exact kr.drewN _ | exact kr.drew⟩
end Go.Proofs.YtpdjpjkieafnbaaDoor.Li
