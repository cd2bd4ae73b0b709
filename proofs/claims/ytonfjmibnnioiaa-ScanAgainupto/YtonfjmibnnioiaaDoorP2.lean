import Derived.Test.YtonfjmibnnioiaaDoorP1
import Derived.Test.YtonfjmibnnioiaaDoorX4
import Derived.Shelf.Strings.SlTrimAscii
set_option linter.unusedVariables false
set_option linter.unusedSimpArgs false
namespace Go.Proofs.YtonfjmibnnioiaaDoor
open Go.RowKit Go.Shelf
/-- Has a line no word? -/
def bkB (l : List UInt8) : Bool := (l.dropWhile blB).isEmpty || (l.dropWhile blB).head? == some 35
theorem cs_bl (c : UInt8) : ([32, 9] : List UInt8).contains c = blB c := by
  unfold blB
  simp only [List.contains_cons, List.contains_nil, Bool.or_false]
  rw [Bool.eq_iff_iff]; simp
theorem TrimLeft_any (l : List UInt8) (w : World) : Calls Tryd.prog 49 #[.string ⟨l.toArray⟩, .string ⟨#[32, 9]⟩] w fun e w' => e = .returned (.string ⟨(l.dropWhile blB).toArray⟩) ∧ Keep w w' := by
  have h := Any.strings_TrimLeft_laid Tryd.lays161 (by kernel_rfl) ⟨l.toArray⟩ ⟨#[32, 9]⟩ w (by decide) (by
    intro j b hj
    have hm := List.mem_of_getElem? hj
    have : b = 32 ∨ b = 9 := by simpa using hm
    rcases this with rfl | rfl <;> decide)
  have e1 : Lib.trimLeftS (ByteArray.mk l.toArray).data.toList (ByteArray.mk #[32, 9]).data.toList = l.dropWhile blB := by
    rw [dt_mk]
    unfold Lib.trimLeftS
    congr 1
    funext c
    exact cs_bl c
  rw [e1] at h
  exact h
set_option maxRecDepth 100000 in
theorem Blank_any (l : List UInt8) (w : World) : Calls Tryd.prog 26 #[.string ⟨l.toArray⟩] w fun e w' => e = .returned (.bool (bkB l)) ∧ Keep w w' := by
  have hT := TrimLeft_any l w
  have HB : Hid (bkB l = ((l.dropWhile blB).isEmpty || (l.dropWhile blB).head? == some 35)) := rfl
  generalize l.dropWhile blB = r at *
  cases r with
  | nil =>
    have HB : Hid (bkB l = true) := HB
    go_enter Tryd.func26, Tryd.ntmps26
    go_wp2_with (go_at_call 49; refine hT.mono ?_; rintro e w1 ⟨rfl, k1⟩)
    go_ret
    exact ⟨by rw [HB.out]; rfl, k1⟩
  | cons c r =>
    have HB : Hid (bkB l = decide (c = 35)) := by
      unfold Hid; rw [HB.out]
      simp only [List.isEmpty_cons, List.head?_cons, Bool.false_or]
      rw [Bool.eq_iff_iff]; simp
    have e35 : ((c.toNat : Int) == 35) = decide (c = 35) := by rw [← ub_eq c 35]; rfl
    have hx : ∀ w, (Instr.index 9 (.string ⟨(c :: r).toArray⟩) (.int .i64 0)).run Tryd.prog w = .ok (.int .u8 (c.toNat : Nat)) w := fun w => run_ix (c :: r) 0 (by simp) w
    have he : (c :: r).isEmpty = false := rfl
    have hz := sz_mk (c :: r)
    obtain ⟨q, hq⟩ : ∃ q : List UInt8, q = c :: r := ⟨_, rfl⟩
    rw [← hq] at hT hx he hz
    replace hq : Hid _ := hq
    generalize decide (c = 35) = b at *
    generalize c.toNat = n at *
    cases b <;>
      (go_enter Tryd.func26, Tryd.ntmps26
       go_wp2_with (go_at_call 49; refine hT.mono ?_; rintro e w1 ⟨rfl, k1⟩)
       go_ret
       exact ⟨by rw [HB.out]; rfl, k1⟩)
set_option maxRecDepth 100000 in
set_option maxHeartbeats 2000000 in
theorem rBlank_any (l : List UInt8) (w : World) (hs : l.length ≤ 1099511627776) : Calls Tryd.prog 27 #[.string ⟨l.toArray⟩] w fun e w' => e = .returned (.bool (bkB l)) ∧ w' = w := by
  have hsz := sz_mk l
  go_enter Tryd.func27, Tryd.ntmps27
  go_wp2_with fail
  go_loop [3] (fun n => ∃ k : Nat, n = .int .i64 (k : Int) ∧ k ≤ l.length ∧ Hid (bkB l = bkB (l.drop k))) (fun n => l.length - (intOf n).toNat)
  case atStart => exact ⟨0, rfl, by omega, rfl⟩
  case round =>
    obtain ⟨k, rfl, hk, H⟩ := hrel
    by_cases hlt : k < l.length
    · have hltc : decide ((k : Int) < (l.length : Int)) = true := decide_eq_true (by omega)
      have hx := run_ix l k hlt
      have HK : Hid (k < l.length) := hlt
      have hC := H.out
      rw [drop_cons l k hlt] at hC
      obtain ⟨x, hx0⟩ : ∃ x, l.getD k 0 = x := ⟨_, rfl⟩
      rw [hx0] at hx hC
      have hB := fun wx => rblank_any x wx
      have e35 : ((x.toNat : Int) != 35) = !(decide (x = 35)) := by rw [bne, ← ub_eq x 35]; rfl
      by_cases h35 : x = 35
      · have HX : Hid (bkB l = true) := by
          unfold Hid; rw [hC, h35]; unfold bkB
          rw [List.dropWhile_cons, if_neg (by decide)]; rfl
        rw [decide_eq_true h35] at e35
        clear h35 hC hx0 H
        generalize x.toNat = n at *
        go_wp2_with fail
        go_ret
        exact ⟨by rw [HX.out]; rfl, rfl⟩
      · rw [decide_eq_false h35] at e35
        cases hb : blB x with
        | true =>
          rw [hb] at hB
          have HX : Hid (bkB l = bkB (l.drop (k + 1))) := by
            unfold Hid; rw [hC]; unfold bkB
            rw [List.dropWhile_cons, if_pos hb]
          clear h35 hC hx0 H hb
          generalize x.toNat = n at *
          go_wp2_with (go_at_call 34; refine (hB _).mono ?_; rintro e w0 ⟨rfl, hw0⟩; rw [hw0]; clear hw0)
          go_round
          case rel => exact ⟨k + 1, by go_num, by have := HK.out; omega, HX⟩
          case measure => have := HK.out; simp [intOf]; omega
        | false =>
          rw [hb] at hB
          have HX : Hid (bkB l = false) := by
            unfold Hid; rw [hC]; unfold bkB
            rw [List.dropWhile_cons, if_neg (by rw [hb]; decide)]
            simp [h35]
          clear h35 hC hx0 H hb
          generalize x.toNat = n at *
          go_wp2_with (go_at_call 34; refine (hB _).mono ?_; rintro e w0 ⟨rfl, hw0⟩; rw [hw0]; clear hw0)
          go_ret
          exact ⟨by rw [HX.out]; rfl, rfl⟩
    · have hltc : ¬ (k : Int) < (l.length : Int) := by omega
      obtain rfl : k = l.length := by omega
      have HX : Hid (bkB l = true) := by unfold Hid; rw [H.out, List.drop_length]; rfl
      go_wp2_with fail
      go_ret
      exact ⟨by rw [HX.out]; rfl, rfl⟩
end Go.Proofs.YtonfjmibnnioiaaDoor
