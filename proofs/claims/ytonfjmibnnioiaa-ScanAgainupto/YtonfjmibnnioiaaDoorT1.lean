import Derived.Test.YtonfjmibnnioiaaDoorB0
set_option linter.unusedVariables false
set_option linter.unusedSimpArgs false
namespace Go.Proofs.YtonfjmibnnioiaaDoor
open Go.RowKit Go.Shelf
/-- The table stands as it was laid. -/
def Kt (w : World) : Prop := ∀ c, c < 128 → w.cell? ⟨0, c, none⟩ = some (.int .u8 (kdN c : Nat))
theorem Kt.keep {w w' : World} (h : Kt w) (k : Keep w w') : Kt w' := fun c hc => k.cell (h c hc)
theorem kd_lt : ∀ c, c < 128 → kdN c < 10 := by decide +kernel
theorem kd_high (c : UInt8) (h : 128 ≤ c.toNat) : kd c = 0 := by
  have : kdL.length = 128 := by decide +kernel
  unfold kd kdN
  rw [List.getD_eq_getElem?_getD, List.getElem?_eq_none (by omega)]; rfl
theorem kd_ten (c : UInt8) : kd c < 10 := by
  by_cases h : c.toNat < 128
  · exact kd_lt _ h
  · rw [kd_high c (by omega)]; omega
theorem kindOf_any (c : UInt8) (w : World) (hT : Kt w) : Calls Tryd.prog 32 #[.int .u8 (c.toNat : Nat)] w fun e w' => e = .returned (.int .u8 (kd c : Nat)) ∧ w' = w := by
  by_cases h : c.toNat < 128
  · have hi : decide ((128 : Int) ≤ (c.toNat : Int)) = false := decide_eq_false (by omega)
    have hx := hT c.toNat h
    have hk : Hid (kd c = kdN c.toNat) := rfl
    have hm := UInt8.toNat_lt c
    generalize kdN c.toNat = k at hx hk
    generalize c.toNat = n at hi hx hm h
    go_enter Tryd.func32, Tryd.ntmps32
    go_wp2_with fail
    go_ret
    exact ⟨by rw [hk.out]; rfl, rfl⟩
  · have hi : decide ((128 : Int) ≤ (c.toNat : Int)) = true := decide_eq_true (by omega)
    have hk : Hid (kd c = 0) := kd_high c (by omega)
    have hm := UInt8.toNat_lt c
    generalize c.toNat = n at hi hm h
    go_enter Tryd.func32, Tryd.ntmps32
    go_wp2_with fail
    go_ret
    exact ⟨by rw [hk.out]; rfl, rfl⟩
theorem inName_any (k : Nat) (w : World) : Calls Tryd.prog 48 #[.int .u8 (k : Nat)] w fun e w' => e = .returned (.bool (inNm k)) ∧ w' = w := by
  have e2 : ((k : Int) == 2) = (k == 2) := by rw [Bool.eq_iff_iff]; simp only [beq_iff_eq]; omega
  have e3 : ((k : Int) == 3) = (k == 3) := by rw [Bool.eq_iff_iff]; simp only [beq_iff_eq]; omega
  have e4 : ((k : Int) == 4) = (k == 4) := by rw [Bool.eq_iff_iff]; simp only [beq_iff_eq]; omega
  have H : Hid (inNm k = ((k == 2) || (k == 3) || (k == 4))) := rfl
  generalize hb2 : (k == 2) = b2 at *
  generalize hb3 : (k == 3) = b3 at *
  generalize hb4 : (k == 4) = b4 at *
  clear hb2 hb3 hb4
  cases b2 <;> cases b3 <;> cases b4 <;> (go_enter Tryd.func48, Tryd.ntmps48; go_wp2_with fail; go_ret; exact ⟨by rw [H.out]; rfl, rfl⟩)
theorem inNumber_any (k : Nat) (w : World) : Calls Tryd.prog 55 #[.int .u8 (k : Nat)] w fun e w' => e = .returned (.bool (inNu k)) ∧ w' = w := by
  have e5 : ((k : Int) == 5) = (k == 5) := by rw [Bool.eq_iff_iff]; simp only [beq_iff_eq]; omega
  have H : Hid (inNu k = (inNm k || (k == 5))) := rfl
  have hN := inName_any k w
  generalize hb5 : (k == 5) = b5 at *
  generalize inNm k = bn at *
  clear hb5
  cases bn <;> cases b5 <;> (go_enter Tryd.func55, Tryd.ntmps55; go_wp2_with (go_at_call 48; refine hN.mono ?_; rintro e w0 ⟨rfl, rfl⟩); go_ret; exact ⟨by rw [H.out]; rfl, rfl⟩)
/-- With how many such bytes a text begins. -/
def rnF (p : Nat → Bool) (l : List UInt8) : Nat := (l.takeWhile fun x => p (kd x)).length
theorem rn_step (p : Nat → Bool) (l : List UInt8) (k : Nat) (h : k < l.length) (hk : k + rnF p (l.drop k) = rnF p l) : (p (kd (l.getD k 0)) = true → (k + 1) + rnF p (l.drop (k + 1)) = rnF p l) ∧ (p (kd (l.getD k 0)) = false → k = rnF p l) := by
  have hd : l.drop k = l.getD k 0 :: l.drop (k + 1) := by
    rw [List.drop_eq_getElem_cons h]; simp [List.getD, h]
  rw [hd] at hk
  unfold rnF at hk ⊢
  rw [List.takeWhile_cons] at hk
  constructor
  · intro hp; rw [if_pos hp, List.length_cons] at hk; omega
  · intro hp; rw [if_neg (by rw [hp]; decide), List.length_nil] at hk; omega
set_option maxRecDepth 100000 in
set_option maxHeartbeats 1000000 in
theorem runName_any (l : List UInt8) (w : World) (hT : Kt w) (hs : l.length ≤ 281474976710656) : Calls Tryd.prog 47 #[.string ⟨l.toArray⟩, .func (.func 48) #[] #[]] w fun e w' => e = .returned (.int .i64 (rnF inNm l : Nat)) ∧ w' = w := by
  have hsz := sz_mk l
  go_enter Tryd.func47, Tryd.ntmps47
  go_wp2_with fail
  go_loop [5] (fun n => ∃ k : Nat, n = .int .i64 (k : Int) ∧ k ≤ l.length ∧ Hid (k + rnF inNm (l.drop k) = rnF inNm l)) (fun n => l.length - (intOf n).toNat)
  case atStart => exact ⟨0, rfl, by omega, by unfold Hid; rw [List.drop_zero]; omega⟩
  case round =>
    obtain ⟨k, rfl, hk, H⟩ := hrel
    by_cases hlt : k < l.length
    · have hltc : (k : Int) < (l.length : Int) := by omega
      have hx := run_ix l k hlt
      have hK := kindOf_any (l.getD k 0) w hT
      obtain ⟨S1, S2⟩ := rn_step inNm l k hlt H.out
      generalize l.getD k 0 = c at hx hK S1 S2
      have HK : Hid (k < l.length) := hlt
      have hP := fun w => inName_any (kd c) w
      cases hb : inNm (kd c) with
      | true =>
        have S := S1 hb
        rw [hb] at hP
        replace S : Hid _ := S
        clear hlt S1 S2 hb
        generalize kd c = kc at hK hP
        generalize c.toNat = nc at hx hK
        go_wp2_with (first
          | (go_at_call 32; refine hK.mono ?_; rintro e w0 ⟨rfl, hw0⟩; rw [hw0]; clear hw0)
          | (go_at_call 48; refine (hP _).mono ?_; rintro e w0 ⟨rfl, hw0⟩; rw [hw0]; clear hw0))
        go_round
        case rel => exact ⟨k + 1, by go_num, by have := HK.out; omega, S.out⟩
        case measure => have := HK.out; simp [intOf]; omega
      | false =>
        have S := S2 hb
        rw [hb] at hP
        replace S : Hid _ := S
        clear hlt S1 S2 hb
        generalize kd c = kc at hK hP
        generalize c.toNat = nc at hx hK
        go_wp2_with (first
          | (go_at_call 32; refine hK.mono ?_; rintro e w0 ⟨rfl, hw0⟩; rw [hw0]; clear hw0)
          | (go_at_call 48; refine (hP _).mono ?_; rintro e w0 ⟨rfl, hw0⟩; rw [hw0]; clear hw0))
        go_ret
        exact ⟨by rw [← S.out]; rfl, rfl⟩
    · have hltc : ¬ (k : Int) < (l.length : Int) := by omega
      obtain rfl : k = l.length := by omega
      have H1 : Hid (rnF inNm l = l.length) := by unfold Hid; rw [← H.out, List.drop_length]; rfl
      go_wp2_with fail
      go_ret
      exact ⟨by rw [H1.out]; rfl, rfl⟩
set_option maxRecDepth 100000 in
set_option maxHeartbeats 1000000 in
theorem runNumber_any (l : List UInt8) (w : World) (hT : Kt w) (hs : l.length ≤ 281474976710656) : Calls Tryd.prog 47 #[.string ⟨l.toArray⟩, .func (.func 55) #[] #[]] w fun e w' => e = .returned (.int .i64 (rnF inNu l : Nat)) ∧ w' = w := by
  have hsz := sz_mk l
  go_enter Tryd.func47, Tryd.ntmps47
  go_wp2_with fail
  go_loop [5] (fun n => ∃ k : Nat, n = .int .i64 (k : Int) ∧ k ≤ l.length ∧ Hid (k + rnF inNu (l.drop k) = rnF inNu l)) (fun n => l.length - (intOf n).toNat)
  case atStart => exact ⟨0, rfl, by omega, by unfold Hid; rw [List.drop_zero]; omega⟩
  case round =>
    obtain ⟨k, rfl, hk, H⟩ := hrel
    by_cases hlt : k < l.length
    · have hltc : (k : Int) < (l.length : Int) := by omega
      have hx := run_ix l k hlt
      have hK := kindOf_any (l.getD k 0) w hT
      obtain ⟨S1, S2⟩ := rn_step inNu l k hlt H.out
      generalize l.getD k 0 = c at hx hK S1 S2
      have HK : Hid (k < l.length) := hlt
      have hP := fun w => inNumber_any (kd c) w
      cases hb : inNu (kd c) with
      | true =>
        have S := S1 hb
        rw [hb] at hP
        replace S : Hid _ := S
        clear hlt S1 S2 hb
        generalize kd c = kc at hK hP
        generalize c.toNat = nc at hx hK
        go_wp2_with (first
          | (go_at_call 32; refine hK.mono ?_; rintro e w0 ⟨rfl, hw0⟩; rw [hw0]; clear hw0)
          | (go_at_call 55; refine (hP _).mono ?_; rintro e w0 ⟨rfl, hw0⟩; rw [hw0]; clear hw0))
        go_round
        case rel => exact ⟨k + 1, by go_num, by have := HK.out; omega, S.out⟩
        case measure => have := HK.out; simp [intOf]; omega
      | false =>
        have S := S2 hb
        rw [hb] at hP
        replace S : Hid _ := S
        clear hlt S1 S2 hb
        generalize kd c = kc at hK hP
        generalize c.toNat = nc at hx hK
        go_wp2_with (first
          | (go_at_call 32; refine hK.mono ?_; rintro e w0 ⟨rfl, hw0⟩; rw [hw0]; clear hw0)
          | (go_at_call 55; refine (hP _).mono ?_; rintro e w0 ⟨rfl, hw0⟩; rw [hw0]; clear hw0))
        go_ret
        exact ⟨by rw [← S.out]; rfl, rfl⟩
    · have hltc : ¬ (k : Int) < (l.length : Int) := by omega
      obtain rfl : k = l.length := by omega
      have H1 : Hid (rnF inNu l = l.length) := by unfold Hid; rw [← H.out, List.drop_length]; rfl
      go_wp2_with fail
      go_ret
      exact ⟨by rw [H1.out]; rfl, rfl⟩
end Go.Proofs.YtonfjmibnnioiaaDoor
