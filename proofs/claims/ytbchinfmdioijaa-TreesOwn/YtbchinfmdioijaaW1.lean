import Derived.Test.YtbchinfmdioijaaU4
import Derived.Test.YtbchinfmdioijaaV1
import Derived.Test.YtbchinfmdioijaaMath3
set_option linter.unusedVariables false
set_option linter.unusedSimpArgs false
namespace Go.Proofs.Ytbchinfmdioijaa
open Go.RowKit Go.Shelf
/-- A vector too short for a question. -/
def lackB (L : List Nd) (m : Nat) : Bool := L.any fun n => decide ((n.kd = 2 ∨ n.kd = 3) ∧ (m : Int) ≤ n.ft)
theorem lackB_yes {L : List Nd} {m k : Nat} (hk : k < L.length) (h : ((L.getD k nd0).kd = 2 ∨ (L.getD k nd0).kd = 3) ∧ (m : Int) ≤ (L.getD k nd0).ft) : lackB L m = true := by
  unfold lackB
  rw [List.any_eq_true]
  refine ⟨L.getD k nd0, ?_, decide_eq_true h⟩
  simp [List.getD, hk]
theorem lackB_no {L : List Nd} {m : Nat} (h : ∀ k, k < L.length → ¬ (((L.getD k nd0).kd = 2 ∨ (L.getD k nd0).kd = 3) ∧ (m : Int) ≤ (L.getD k nd0).ft)) : lackB L m = false := by
  unfold lackB
  rw [List.any_eq_false]
  intro n hn
  obtain ⟨i, hi, rfl⟩ := List.getElem_of_mem hn
  have := h i hi
  simp only [List.getD, List.getElem?_eq_getElem hi, Option.getD_some] at this
  simpa using this
theorem lackB_ft {L : List Nd} {m k : Nat} (h : lackB L m = false) (hk : k < L.length) (hi : (shp L).K k = true) : (L.getD k nd0).ft < (m : Int) := by
  simp only [shp, decide_eq_true_eq] at hi
  rcases Int.lt_or_le (L.getD k nd0).ft m with q | q
  · exact q
  · rw [lackB_yes hk ⟨hi, q⟩] at h; cases h
set_option maxRecDepth 100000 in
set_option maxHeartbeats 1000000 in
theorem lacks_any (a ax : Option Addr) (cap m cx : Nat) (L : List Nd) (hLn : L.length ≤ 2199023255552) (w : World) (hrd : RdN w a L) :
    Calls Try.prog 56 #[.slice a L.length cap, .slice ax m cx] w fun e w' => e = .returned (.bool (lackB L m)) ∧ Keep w w' := by
  go_enter Try.func56, Try.ntmps56
  go_wp2_with fail
  go_loop [8] (fun iv => ∃ k : Nat, k ≤ L.length ∧ iv = .int .i64 k ∧ Hid (∀ j, j < k → ¬ (((L.getD j nd0).kd = 2 ∨ (L.getD j nd0).kd = 3) ∧ (m : Int) ≤ (L.getD j nd0).ft))) (fun iv => L.length - (intOf iv).toNat)
  case atStart => exact ⟨0, by omega, rfl, by intro j hj; omega⟩
  case round =>
    obtain ⟨k, hk, rfl, hinv⟩ := hrel
    by_cases hkl : k < L.length
    · have hkc : (k : Int) < (L.length : Int) := by omega
      obtain ⟨b, o, ca, cp, rfl, hnd⟩ := hrd k hkl
      have c0 := hnd.c0
      have c2 := hnd.c2
      have hin := isInner_any (L.getD k nd0).kd
      obtain ⟨pv, hpv⟩ : ∃ pv, decide ((L.getD k nd0).kd = 2 ∨ (L.getD k nd0).kd = 3) = pv := ⟨_, rfl⟩
      have HP : Hid (decide ((L.getD k nd0).kd = 2 ∨ (L.getD k nd0).kd = 3) = pv) := hpv
      rw [hpv] at hin
      clear hpv hnd
      obtain ⟨kd, hkd⟩ : ∃ kd, (L.getD k nd0).kd = kd := ⟨_, rfl⟩
      obtain ⟨ft, hft⟩ : ∃ ft, (L.getD k nd0).ft = ft := ⟨_, rfl⟩
      have HN : Hid ((L.getD k nd0).kd = kd ∧ (L.getD k nd0).ft = ft) := ⟨hkd, hft⟩
      rw [hkd] at hin c0
      rw [hft] at c2
      clear hkd hft
      have HS : (¬ (pv = true ∧ (m : Int) ≤ ft)) → Hid (∀ j, j < k + 1 → ¬ (((L.getD j nd0).kd = 2 ∨ (L.getD j nd0).kd = 3) ∧ (m : Int) ≤ (L.getD j nd0).ft)) := by
        intro hno j hj hh
        by_cases e : j = k
        · subst e
          rw [HN.out.2] at hh
          exact hno ⟨by rw [← HP.out]; exact decide_eq_true hh.1, hh.2⟩
        · exact hinv.out j (by omega) hh
      cases pv
      · have HT := HS (by simp)
        go_wp2_with (go_at_call 50; refine (hin _).mono ?_; rintro e w' ⟨rfl, rfl⟩)
        go_round
        case rel => exact ⟨k + 1, by omega, by go_num, HT⟩
        case measure => simp [intOf]; omega
      · by_cases hf : (m : Int) ≤ ft
        · have HY : Hid (lackB L m = true) := lackB_yes hkl ⟨of_decide_eq_true HP.out, by rw [HN.out.2]; exact hf⟩
          go_wp2_with (go_at_call 50; refine (hin _).mono ?_; rintro e w' ⟨rfl, rfl⟩)
          go_ret
          exact ⟨ret_bool HY.out.symm, Keep.refl _⟩
        · have HT := HS (fun h => hf h.2)
          go_wp2_with (go_at_call 50; refine (hin _).mono ?_; rintro e w' ⟨rfl, rfl⟩)
          go_round
          case rel => exact ⟨k + 1, by omega, by go_num, HT⟩
          case measure => simp [intOf]; omega
    · have hkc : ¬ (k : Int) < (L.length : Int) := by omega
      have HN : Hid (lackB L m = false) := lackB_no (fun j hj => hinv.out j (by omega))
      go_wp2_with fail
      go_ret
      exact ⟨ret_bool HN.out.symm, Keep.refl _⟩
end Go.Proofs.Ytbchinfmdioijaa
