import Derived.Test.YtpdjpjkieafnbaaGreatDoorO2
import Derived.Test.YtpdjpjkieafnbaaGreatDoorH1
import Derived.Test.YtpdjpjkieafnbaaGreatDoorSH6
set_option linter.unusedVariables false
set_option linter.unusedSimpArgs false
namespace Go.Proofs.YtpdjpjkieafnbaaGreatDoor.Li
open Go.RowKit Lb
theorem prD : PrD := fun a ca l w h1 h2 h3 h4 => Print_dD a ca l w h1 h2 h3 h4
theorem exD_len (m : Nat) (e : Int) (hm : m < 9007199254740992) (he : -1074 ≤ e ∧ e ≤ 971) : (exD m e).length ≤ 3000 := by
  have h16 : m < 10 ^ 16 := by show m < 10000000000000000; omega
  have big : ∀ n j, n ≤ m * 10 ^ j → j ≤ 1074 → (dD n).length ≤ 1100 := by
    intro n j h hj
    obtain ⟨Z, hZ⟩ : ∃ Z, Z = 1099 := ⟨_, rfl⟩
    rw [show 1100 = Z + 1 by omega]
    apply dD_len Z
    have q3 : m * 10 ^ j < 10 ^ 16 * 10 ^ j := Nat.mul_lt_mul_of_pos_right h16 (Nat.pow_pos (by omega))
    rw [← Nat.pow_add] at q3
    exact Nat.lt_of_lt_of_le (Nat.lt_of_le_of_lt h q3) (Nat.pow_le_pow_right (by omega) (by omega))
  unfold exD
  by_cases h : 0 ≤ e
  · rw [if_pos h]
    have := big (m * 2 ^ e.toNat) e.toNat (Nat.mul_le_mul_left _ (Nat.pow_le_pow_left (by omega) _)) (by omega)
    omega
  · rw [if_neg h]
    obtain ⟨k, hk⟩ : ∃ k, (-e).toNat = k := ⟨_, rfl⟩
    rw [hk]
    have hd := big (m * 5 ^ k) k (Nat.mul_le_mul_left _ (Nat.pow_le_pow_left (by omega) _)) (by omega)
    have hl : (exZ k (dD (m * 5 ^ k))).length ≤ 2200 := by
      unfold exZ
      rw [List.length_append, List.length_replicate]
      omega
    rw [List.length_append, List.length_cons, List.length_take, List.length_drop]
    omega
end Go.Proofs.YtpdjpjkieafnbaaGreatDoor.Li
set_option linter.unusedVariables false
set_option linter.unusedSimpArgs false
namespace Go.Proofs.YtpdjpjkieafnbaaGreatDoor
/-- What the law's loop keeps of a text: its digits, how many behind the point, whether a point was seen. -/
structure WS where
  d : List UInt8
  k : Nat
  p : Bool
def wsStep (s : WS) (c : UInt8) : WS := if c = 46 then ⟨s.d, s.k, true⟩ else ⟨s.d ++ [c], s.k + (if s.p then 1 else 0), s.p⟩
def ws (l : List UInt8) : WS := l.foldl wsStep ⟨[], 0, false⟩
end Go.Proofs.YtpdjpjkieafnbaaGreatDoor
set_option linter.unusedVariables false
set_option linter.unusedSimpArgs false
namespace Go.Proofs.YtpdjpjkieafnbaaGreatDoor.Li
open Go.RowKit Lb Nr
set_option maxHeartbeats 400000 in
theorem signedF_nan (ng : Bool) (s : ByteArray) (w : World) : Calls Tryz.prog 64 #[.bool ng, .int .u8 4, .string s] w fun e w' => e = .returned (.string s) ∧ w = w' := by
  cases ng
  all_goals
    go_enter Tryz.func64, Tryz.ntmps64
    go_wp2_with fail
    go_ret
    exact ⟨rfl, rfl⟩
/-- The text of what has a name. -/
def exS (b : Nat) : List UInt8 := if pKind b = 4 then [110, 97, 110] else sgS (pNeg b) (nmS (pKind b))
set_option maxRecDepth 100000 in
set_option maxHeartbeats 400000 in
theorem Exact_named (b : Nat) (hb : b < 18446744073709551616) (hk : pKind b = 0 ∨ pKind b = 3 ∨ pKind b = 4) (w : World) :
    Calls Tryz.prog 23 #[.float .f64 b] w fun r w' => r = .returned (.string ⟨(exS b).toArray⟩) ∧ Keep w w' := by
  have hP := Parts_any b hb w
  unfold exS
  generalize pM b = m at *
  generalize pE b = e at *
  generalize pNeg b = ng at *
  have hcS0 := fun wx => signedF_any ng 0 [48] (by omega) (by simp) wx
  have hcS3 := fun wx => signedF_any ng 3 [105, 110, 102] (by omega) (by simp) wx
  have hcS4 := fun wx => signedF_nan ng ⟨#[110, 97, 110]⟩ wx
  have hN0 := fun wx => named_any 0 (by omega) wx
  have hN3 := fun wx => named_any 3 (by omega) wx
  have hN4 := fun wx => named_any 4 (by omega) wx
  rcases hk with hk | hk | hk
  · rw [hk] at hP
    rw [hk, if_neg (by omega)]
    have e0 : nmS 0 = [48] := rfl
    rw [e0] at hN0
    rw [e0]
    obtain ⟨Y, hY⟩ : ∃ Y, sgS ng [48] = Y := ⟨_, rfl⟩
    rw [hY] at hcS0
    rw [hY]
    clear hN3 hN4 hcS3 hcS4 hk hY
    go_enter Tryz.func23, Tryz.ntmps23
    go_wp2_with fail
    refine hP.mono ?_
    rintro r w1 ⟨rfl, k1⟩
    go_wp2_with fail
    refine (hN0 _).mono ?_
    rintro r wz ⟨rfl, hz⟩
    subst hz
    go_wp2_with fail
    refine (hcS0 _).mono ?_
    rintro r wz ⟨rfl, hz⟩
    subst hz
    go_wp2_with fail
    go_ret
    exact ⟨rfl, k1⟩
  · rw [hk] at hP
    rw [hk, if_neg (by omega)]
    have e0 : nmS 3 = [105, 110, 102] := rfl
    rw [e0] at hN3
    rw [e0]
    obtain ⟨Y, hY⟩ : ∃ Y, sgS ng [105, 110, 102] = Y := ⟨_, rfl⟩
    rw [hY] at hcS3
    rw [hY]
    clear hN0 hN4 hcS0 hcS4 hk hY
    go_enter Tryz.func23, Tryz.ntmps23
    go_wp2_with fail
    refine hP.mono ?_
    rintro r w1 ⟨rfl, k1⟩
    go_wp2_with fail
    refine (hN3 _).mono ?_
    rintro r wz ⟨rfl, hz⟩
    subst hz
    go_wp2_with fail
    refine (hcS3 _).mono ?_
    rintro r wz ⟨rfl, hz⟩
    subst hz
    go_wp2_with fail
    go_ret
    exact ⟨rfl, k1⟩
  · rw [hk] at hP
    rw [hk, if_pos rfl]
    have e0 : nmS 4 = [110, 97, 110] := rfl
    rw [e0] at hN4
    clear hN0 hN3 hcS0 hcS3 hk
    go_enter Tryz.func23, Tryz.ntmps23
    go_wp2_with fail
    refine hP.mono ?_
    rintro r w1 ⟨rfl, k1⟩
    go_wp2_with fail
    refine (hN4 _).mono ?_
    rintro r wz ⟨rfl, hz⟩
    subst hz
    go_wp2_with fail
    refine (hcS4 _).mono ?_
    rintro r wz ⟨rfl, hz⟩
    subst hz
    go_wp2_with fail
    go_ret
    exact ⟨rfl, k1⟩
/-- What is said of a number's exact text, its sign apart. -/
structure ExT (b : Nat) (T : List UInt8) : Prop where
  len : T.length ≤ 3000
  hd : ∃ c R, T = c :: R ∧ isD c = true
  dg : allD (ws T).d
  ne : (ws T).d ≠ []
  cr : nat (ws T).d * qY b = qX b * 10 ^ (ws T).k
theorem pKind_in (b : Nat) : pKind b ≤ 4 := by
  unfold pKind
  (repeat' split) <;> omega
end Go.Proofs.YtpdjpjkieafnbaaGreatDoor.Li
