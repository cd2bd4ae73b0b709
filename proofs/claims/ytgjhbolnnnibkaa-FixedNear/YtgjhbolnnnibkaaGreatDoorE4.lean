import Derived.Test.YtgjhbolnnnibkaaGreatDoorE1
import Derived.Test.YtgjhbolnnnibkaaGreatDoorE2
import Derived.Test.YtgjhbolnnnibkaaGreatDoorQQ3
import Derived.Test.YtgjhbolnnnibkaaGreatDoorFLW
import Derived.Test.YtgjhbolnnnibkaaGreatDoorE0
import Derived.Test.YtgjhbolnnnibkaaGreatDoorLK1
import Derived.Test.YtgjhbolnnnibkaaGreatDoorNB2
set_option linter.unusedVariables false
set_option linter.unusedSimpArgs false
namespace Go.Proofs.YtgjhbolnnnibkaaGreatDoor.Li
open Go.RowKit Lb
theorem prD : PrD := fun a ca l w h1 h2 h3 h4 => Print_dD a ca l w h1 h2 h3 h4
/-- How a number without digits is written. -/
def nmS (k : Nat) : List UInt8 := if k = 0 then [48] else if k = 3 then [105, 110, 102] else if k = 4 then [110, 97, 110] else []
set_option maxHeartbeats 400000 in
theorem named_any (k : Nat) (hk : k ≤ 4) (w : World) : Calls Tryz.prog 42 #[.int .u8 (k : Nat)] w fun e w' => e = .returned (.string ⟨(nmS k).toArray⟩) ∧ w = w' := by
  have h : k = 0 ∨ k = 1 ∨ k = 2 ∨ k = 3 ∨ k = 4 := by omega
  rcases h with rfl | rfl | rfl | rfl | rfl
  all_goals
    go_enter Tryz.func42, Tryz.ntmps42
    go_wp2_with fail
    go_ret
    exact ⟨rfl, rfl⟩
/-- A sign ahead. -/
def sgS (ng : Bool) (s : List UInt8) : List UInt8 := (if ng then [45] else []) ++ s
set_option maxRecDepth 100000 in
set_option maxHeartbeats 400000 in
theorem signedF_any (ng : Bool) (k : Nat) (s : List UInt8) (hk : k < 4) (hs : s.length ≤ 100000) (w : World) : Calls Tryz.prog 43 #[.bool ng, .int .u8 (k : Nat), .string ⟨s.toArray⟩] w fun e w' => e = .returned (.string ⟨(sgS ng s).toArray⟩) ∧ w = w' := by
  have hkb : ((k : Int) != 4) = true := by simp; omega
  have s1 : (ByteArray.mk s.toArray).size = s.length := Go.Proofs.YtgjhbolnnnibkaaGreatDoor.sz_mk s
  have hc : (⟨#[45]⟩ : ByteArray) ++ ByteArray.mk s.toArray = ⟨([45] ++ s).toArray⟩ := Go.Proofs.YtgjhbolnnnibkaaGreatDoor.catB [45] s
  cases ng with
  | true =>
    have hb : ((⟨#[45]⟩ : ByteArray) ++ ByteArray.mk s.toArray).size ≤ 100001 := by rw [ByteArray.size_append, s1]; show 1 + _ ≤ _; omega
    have HC : Hid ((⟨#[45]⟩ : ByteArray) ++ ByteArray.mk s.toArray = ⟨([45] ++ s).toArray⟩) := hc
    clear hc
    go_enter Tryz.func43, Tryz.ntmps43
    go_wp2_with fail
    all_goals go_ret
    all_goals exact ⟨congrArg (fun x => Ending.returned (Value.string x)) HC.out, rfl⟩
  | false =>
    clear hc
    go_enter Tryz.func43, Tryz.ntmps43
    go_wp2_with fail
    go_ret
    exact ⟨rfl, rfl⟩
theorem exD_len (m : Nat) (e : Int) (hm : m < 9007199254740992) (he : -1074 ≤ e ∧ e ≤ 971) : (Go.Proofs.YtgjhbolnnnibkaaGreatDoor.exD m e).length ≤ 3000 := by
  have h16 : m < 10 ^ 16 := by show m < 10000000000000000; omega
  have big : ∀ n j, n ≤ m * 10 ^ j → j ≤ 1074 → (Go.Proofs.YtgjhbolnnnibkaaGreatDoor.dD n).length ≤ 1100 := by
    intro n j h hj
    obtain ⟨Z, hZ⟩ : ∃ Z, Z = 1099 := ⟨_, rfl⟩
    rw [show 1100 = Z + 1 by omega]
    apply Go.Proofs.YtgjhbolnnnibkaaGreatDoor.dD_len Z
    have q3 : m * 10 ^ j < 10 ^ 16 * 10 ^ j := Nat.mul_lt_mul_of_pos_right h16 (Nat.pow_pos (by omega))
    rw [← Nat.pow_add] at q3
    exact Nat.lt_of_lt_of_le (Nat.lt_of_le_of_lt h q3) (Nat.pow_le_pow_right (by omega) (by omega))
  unfold Go.Proofs.YtgjhbolnnnibkaaGreatDoor.exD
  by_cases h : 0 ≤ e
  · rw [if_pos h]
    have := big (m * 2 ^ e.toNat) e.toNat (Nat.mul_le_mul_left _ (Nat.pow_le_pow_left (by omega) _)) (by omega)
    omega
  · rw [if_neg h]
    obtain ⟨k, hk⟩ : ∃ k, (-e).toNat = k := ⟨_, rfl⟩
    rw [hk]
    have hd := big (m * 5 ^ k) k (Nat.mul_le_mul_left _ (Nat.pow_le_pow_left (by omega) _)) (by omega)
    have hl : (Go.Proofs.YtgjhbolnnnibkaaGreatDoor.exZ k (Go.Proofs.YtgjhbolnnnibkaaGreatDoor.dD (m * 5 ^ k))).length ≤ 2200 := by
      unfold Go.Proofs.YtgjhbolnnnibkaaGreatDoor.exZ
      rw [List.length_append, List.length_replicate]
      omega
    rw [List.length_append, List.length_cons, List.length_take, List.length_drop]
    omega
theorem pE_in (b : Nat) : -1074 ≤ pE b ∧ pE b ≤ 971 := by
  unfold pE
  have : pField b < 2048 := Nat.mod_lt _ (by omega)
  split
  · omega
  · split
    · omega
    · split <;> omega
theorem pM_lt (b : Nat) : pM b < 9007199254740992 := by
  unfold pM
  have : pKept b < 4503599627370496 := Nat.mod_lt _ (by omega)
  split <;> omega
/-- The exact text of a number that has digits. -/
theorem Exact_some (b : Nat) (hb : b < 18446744073709551616) (hk : pKind b = 1 ∨ pKind b = 2) (hM : 0 < pM b) (w : World) (hT : Bi.Tab w) :
    Calls Tryz.prog 19 #[.float .f64 b] w fun r w' => ∃ (m' : Nat) (e' : Int) (j : Nat), pM b = m' * 2 ^ j ∧ e' = pE b + (j : Int) ∧ (Go.Proofs.YtgjhbolnnnibkaaGreatDoor.exD m' e').length ≤ 3000 ∧ r = .returned (.string ⟨(sgS (pNeg b) (Go.Proofs.YtgjhbolnnnibkaaGreatDoor.exD m' e')).toArray⟩) ∧ Keep w w' := by
  have hP := Parts_any b hb w
  have hMl := pM_lt b
  have hEi := pE_in b
  have hN : ∀ wx, Calls Tryz.prog 42 #[.int .u8 (pKind b : Nat)] wx fun e w' => e = .returned (.string ⟨#[]⟩) ∧ wx = w' := fun wx => by
    have q := named_any (pKind b) (by omega) wx
    have e : nmS (pKind b) = [] := by unfold nmS; rw [if_neg (by omega), if_neg (by omega), if_neg (by omega)]
    rw [e] at q
    exact q
  obtain ⟨k, hk2⟩ : ∃ k, pKind b = k := ⟨_, rfl⟩
  rw [hk2] at hP hN hk
  have hk4 : k < 4 := by omega
  generalize pM b = m at *
  generalize pE b = e at *
  generalize pNeg b = ng at *
  clear hk2 hk
  go_enter Tryz.func19, Tryz.ntmps19
  go_wp2_with fail
  refine hP.mono ?_
  rintro r w1 ⟨rfl, k1⟩
  go_wp2_with fail
  refine (hN _).mono ?_
  rintro r wz ⟨rfl, hz⟩
  subst hz
  go_wp2_with fail
  refine (exact_any prD m e w1 hM hMl hEi (hT.keep k1)).mono ?_
  rintro r w2 ⟨m', e', j, h1, h2, h3, rfl, k2⟩
  have hm' : m' < 9007199254740992 := by
    have h5 : 0 < 2 ^ j := Nat.two_pow_pos j
    have : m' * 1 ≤ m' * 2 ^ j := Nat.mul_le_mul_left _ h5
    omega
  have hlen : (Go.Proofs.YtgjhbolnnnibkaaGreatDoor.exD m' e').length ≤ 3000 := exD_len m' e' hm' h3
  have cS := signedF_any ng k (Go.Proofs.YtgjhbolnnnibkaaGreatDoor.exD m' e') hk4 (by omega) w2
  have HL : Hid ((Go.Proofs.YtgjhbolnnnibkaaGreatDoor.exD m' e').length ≤ 3000) := hlen
  replace h1 : Hid _ := h1
  replace h2 : Hid _ := h2
  obtain ⟨X, hX⟩ : ∃ X, Go.Proofs.YtgjhbolnnnibkaaGreatDoor.exD m' e' = X := ⟨_, rfl⟩
  obtain ⟨Y, hY⟩ : ∃ Y, sgS ng X = Y := ⟨_, rfl⟩
  rw [hX] at cS
  rw [hX]
  rw [hY] at cS
  have HX : Hid (Go.Proofs.YtgjhbolnnnibkaaGreatDoor.exD m' e' = X ∧ sgS ng X = Y) := ⟨hX, hY⟩
  clear hlen hX hY h3
  go_wp2_with fail
  refine cS.mono ?_
  rintro r wz ⟨rfl, hz⟩
  subst hz
  go_wp2_with fail
  go_ret
  exact ⟨m', e', j, h1.out, h2.out, HL.out, by rw [HX.out.1, HX.out.2]; rfl, k1.trans k2⟩
end Go.Proofs.YtgjhbolnnnibkaaGreatDoor.Li
set_option linter.unusedVariables false
set_option linter.unusedSimpArgs false
namespace Go.Proofs.YtgjhbolnnnibkaaGreatDoor.Li
open Go.RowKit Lb
def nX (b : Nat) : Nat := RN (pM b * 2 ^ (pE b).toNat) (2 ^ (-(pE b)).toNat)
def nY (b : Nat) : Nat := RD (pM b * 2 ^ (pE b).toNat) (2 ^ (-(pE b)).toNat)
def nR (b : Nat) : Nat := Go.Proofs.YtgjhbolnnnibkaaGreatDoor.rup (nX b * 1000000) (nY b)
theorem nY_pos (b : Nat) : 0 < nY b := by
  unfold nY RD
  have h : 0 < 2 ^ (-(pE b)).toNat := Nat.two_pow_pos _
  rw [if_neg (by omega)]
  exact Nat.div_pos (Nat.le_of_dvd h (Nat.gcd_dvd_right _ _)) (Nat.gcd_pos_of_pos_right _ h)
theorem nXY (b : Nat) : pM b * 2 ^ (pE b).toNat * nY b = nX b * 2 ^ (-(pE b)).toNat := by
  unfold nX nY RN RD
  generalize pM b * 2 ^ (pE b).toNat = N
  have h : 0 < 2 ^ (-(pE b)).toNat := Nat.two_pow_pos _
  generalize 2 ^ (-(pE b)).toNat = D at *
  rw [if_neg (by omega), if_neg (by omega)]
  obtain ⟨x, hx⟩ := Nat.gcd_dvd_left N D
  obtain ⟨y, hy⟩ := Nat.gcd_dvd_right N D
  have hg : 0 < Nat.gcd N D := Nat.gcd_pos_of_pos_right N h
  generalize Nat.gcd N D = g at *
  rw [hx, hy, Nat.mul_div_cancel_left _ hg, Nat.mul_div_cancel_left _ hg]
  rw [Nat.mul_assoc, Nat.mul_left_comm x g y, Nat.mul_left_comm]
/-- The quotient of the digits that are written. -/
theorem digits_quot {b m' j : Nat} {e' : Int} (h1 : pM b = m' * 2 ^ j) (h2 : e' = pE b + (j : Int)) : if 0 ≤ e' then m' * 2 ^ e'.toNat * nY b = nX b else m' * nY b = nX b * 2 ^ (-e').toNat := by
  have q := nXY b
  rw [h1] at q
  generalize pE b = E at *
  generalize nY b = Y at *
  generalize nX b = X at *
  have pp : ∀ k, 0 < 2 ^ k := fun k => Nat.two_pow_pos k
  by_cases hE : 0 ≤ E
  · have e1 : (-E).toNat = 0 := by omega
    rw [e1, Nat.pow_zero, Nat.mul_one] at q
    rw [if_pos (by omega), show e'.toNat = j + E.toNat by omega, Nat.pow_add, ← Nat.mul_assoc]
    exact q
  · have e1 : E.toNat = 0 := by omega
    rw [e1, Nat.pow_zero, Nat.mul_one] at q
    by_cases he : 0 ≤ e'
    · rw [if_pos he]
      have e2 : j = e'.toNat + (-E).toNat := by omega
      rw [e2, Nat.pow_add] at q
      apply Nat.eq_of_mul_eq_mul_right (pp (-E).toNat)
      rw [← q]
      simp only [Nat.mul_assoc, Nat.mul_comm, Nat.mul_left_comm]
    · rw [if_neg he]
      have e2 : (-E).toNat = j + (-e').toNat := by omega
      rw [e2, Nat.pow_add] at q
      apply Nat.eq_of_mul_eq_mul_right (pp j)
      have q2 : m' * Y * 2 ^ j = m' * 2 ^ j * Y := by rw [Nat.mul_right_comm]
      rw [q2, q]
      simp only [Nat.mul_assoc, Nat.mul_comm, Nat.mul_left_comm]
def nV (b : Nat) : Int := if pKind b = 4 then 0 else if pKind b = 3 then 0 else Go.Proofs.YtgjhbolnnnibkaaGreatDoor.sgV (pNeg b) (nR b)
def nE (b : Nat) : Int := if pKind b = 4 then 60 else if pKind b = 3 then 41 else Go.Proofs.YtgjhbolnnnibkaaGreatDoor.sgE (pNeg b) (nR b)
theorem kind_M (b : Nat) : (pKind b = 0 ∧ pM b = 0) ∨ ((pKind b = 1 ∨ pKind b = 2) ∧ 0 < pM b) ∨ pKind b = 3 ∨ pKind b = 4 := by
  unfold pKind pM
  have hf : pField b < 2048 := Nat.mod_lt _ (by omega)
  (repeat' split) <;> omega
set_option maxHeartbeats 400000 in
/-- The text of a nought. -/
theorem Exact_zero (b : Nat) (hb : b < 18446744073709551616) (hk : pKind b = 0) (w : World) :
    Calls Tryz.prog 19 #[.float .f64 b] w fun r w' => r = .returned (.string ⟨(sgS (pNeg b) [48]).toArray⟩) ∧ Keep w w' := by
  have hP := Parts_any b hb w
  have hN := fun wx => named_any 0 (by omega) wx
  have hS := fun wx => signedF_any (pNeg b) 0 [48] (by omega) (by decide) wx
  rw [hk] at hP
  rw [show nmS 0 = [48] from rfl] at hN
  generalize sgS (pNeg b) [48] = Y at *
  generalize pNeg b = ng at *
  generalize pM b = m at *
  generalize pE b = e at *
  go_enter Tryz.func19, Tryz.ntmps19
  go_wp2_with fail
  refine hP.mono ?_
  rintro r w1 ⟨rfl, k1⟩
  go_wp2_with fail
  refine (hN _).mono ?_
  rintro r wz ⟨rfl, hz⟩
  subst hz
  go_wp2_with fail
  refine (hS _).mono ?_
  rintro r wz ⟨rfl, hz⟩
  subst hz
  go_wp2_with fail
  go_ret
  exact ⟨rfl, k1⟩
/-- What Rounded says of a text that is written. -/
theorem rounded_text (ng : Bool) (s : List UInt8) (n : Nat) (hs : s.length ≤ 4096) (h1 : Go.Proofs.YtgjhbolnnnibkaaGreatDoor.pNg s = ng) (h2 : Go.Proofs.YtgjhbolnnnibkaaGreatDoor.oGood s) (h3 : Go.Proofs.YtgjhbolnnnibkaaGreatDoor.oN s = n) (wx : World) :
    Calls Tryz.prog 18 #[.string ⟨s.toArray⟩] wx fun e w' => e = .returned (.tuple #[.int .i64 (Go.Proofs.YtgjhbolnnnibkaaGreatDoor.sgV ng n), .int .i64 (Go.Proofs.YtgjhbolnnnibkaaGreatDoor.sgE ng n), .int .i64 0]) ∧ Keep wx w' := by
  refine (Go.Proofs.YtgjhbolnnnibkaaGreatDoor.Rounded_any s wx hs).mono ?_
  rintro e w' ⟨⟨V, E, K, rfl, h⟩, k⟩
  obtain ⟨a, b, c⟩ := h.good h2
  rw [h1, h3] at a b
  rw [a, b, c]
  exact ⟨rfl, k⟩
theorem sgS_len (ng : Bool) (s : List UInt8) : (sgS ng s).length ≤ s.length + 1 := by
  unfold sgS
  cases ng <;> simp
set_option maxRecDepth 100000 in
set_option maxHeartbeats 400000 in
/-- The program's Nearest. -/
theorem Nearest_any (b : Nat) (hb : b < 18446744073709551616) (w : World) (hT : Bi.Tab w) :
    Calls Tryz.prog 6 #[.float .f64 b] w fun r w' => r = .returned (.tuple #[.int .i64 (nV b), .int .i64 (nE b)]) ∧ Keep w w' := by
  have hP := Parts_any b hb w
  obtain ⟨k, hk⟩ : ∃ k, pKind b = k := ⟨_, rfl⟩
  rcases kind_M b with ⟨h1, h2⟩ | ⟨h1, h2⟩ | h1 | h1
  · have hE := fun wx => Exact_zero b hb h1 wx
    obtain ⟨a1, a2, a3⟩ := Go.Proofs.YtgjhbolnnnibkaaGreatDoor.apartO (ng := pNeg b) (D := [48]) (P := []) (s := sgS (pNeg b) [48]) rfl (by intro x hx; simp at hx; rw [hx]; decide) (by simp) (.inl rfl)
    have hR := fun wx => rounded_text (pNeg b) (sgS (pNeg b) [48]) 0 (by have := sgS_len (pNeg b) [48]; simp at this; omega) a1 a2 (by rw [a3]; decide +kernel) wx
    have hv : nV b = Go.Proofs.YtgjhbolnnnibkaaGreatDoor.sgV (pNeg b) 0 ∧ nE b = Go.Proofs.YtgjhbolnnnibkaaGreatDoor.sgE (pNeg b) 0 := by
      have hx : nX b = 0 := by unfold nX RN; rw [h2]; simp
      have hr : nR b = 0 := by
        unfold nR Go.Proofs.YtgjhbolnnnibkaaGreatDoor.rup
        have := nY_pos b
        rw [hx, Nat.zero_mul, Nat.zero_mod, Nat.zero_div, if_neg (by omega)]
      unfold nV nE
      rw [if_neg (by omega), if_neg (by omega), if_neg (by omega), if_neg (by omega), hr]
      exact ⟨rfl, rfl⟩
    rw [hv.1, hv.2]
    rw [h1] at hP
    generalize sgS (pNeg b) [48] = S at *
    generalize Go.Proofs.YtgjhbolnnnibkaaGreatDoor.sgV (pNeg b) 0 = V at *
    generalize Go.Proofs.YtgjhbolnnnibkaaGreatDoor.sgE (pNeg b) 0 = E at *
    clear a1 a2 a3 hv h1 h2 hk
    generalize pNeg b = ng at *
    generalize pM b = m at *
    generalize pE b = e at *
    go_enter Tryz.func6, Tryz.ntmps6
    go_wp2_with fail
    refine hP.mono ?_
    rintro r w1 ⟨rfl, k1⟩
    go_wp2_with fail
    refine (hE _).mono ?_
    rintro r w2 ⟨rfl, k2⟩
    go_wp2_with fail
    refine (hR _).mono ?_
    rintro r w3 ⟨rfl, k3⟩
    go_wp2_with fail
    go_ret2
    exact ⟨rfl, (k1.trans k2).trans k3⟩
  · have hE := fun wx (hx : Bi.Tab wx) => Exact_some b hb h1 h2 wx hx
    have hd : ∀ (m' : Nat) (e' : Int) (j : Nat), pM b = m' * 2 ^ j → e' = pE b + (j : Int) → (Go.Proofs.YtgjhbolnnnibkaaGreatDoor.exD m' e').length ≤ 3000 → ∀ wx, Calls Tryz.prog 18 #[.string ⟨(sgS (pNeg b) (Go.Proofs.YtgjhbolnnnibkaaGreatDoor.exD m' e')).toArray⟩] wx fun e w' => e = .returned (.tuple #[.int .i64 (nV b), .int .i64 (nE b), .int .i64 0]) ∧ Keep wx w' := by
      intro m' e' j q1 q2 q3 wx
      obtain ⟨a1, a2, a3⟩ := Go.Proofs.YtgjhbolnnnibkaaGreatDoor.exact_rounded (pNeg b) m' e' (nY_pos b) (digits_quot q1 q2) (s := sgS (pNeg b) (Go.Proofs.YtgjhbolnnnibkaaGreatDoor.exD m' e')) rfl
      have q := rounded_text (pNeg b) (sgS (pNeg b) (Go.Proofs.YtgjhbolnnnibkaaGreatDoor.exD m' e')) (nR b) (by have := sgS_len (pNeg b) (Go.Proofs.YtgjhbolnnnibkaaGreatDoor.exD m' e'); omega) a1 a2 a3 wx
      have hv : nV b = Go.Proofs.YtgjhbolnnnibkaaGreatDoor.sgV (pNeg b) (nR b) ∧ nE b = Go.Proofs.YtgjhbolnnnibkaaGreatDoor.sgE (pNeg b) (nR b) := by
        unfold nV nE
        rw [if_neg (by omega), if_neg (by omega), if_neg (by omega), if_neg (by omega)]
        exact ⟨rfl, rfl⟩
      rw [hv.1, hv.2]
      exact q
    have hk4 : ((k : Int) == 4) = false := by rw [beq_eq_false_iff_ne]; omega
    have hk3 : ((k : Int) == 3) = false := by rw [beq_eq_false_iff_ne]; omega
    rw [hk] at hP
    replace hd : Hid _ := hd
    clear h1 h2 hk
    generalize nV b = V at *
    generalize nE b = E at *
    go_enter Tryz.func6, Tryz.ntmps6
    go_wp2_with fail
    refine hP.mono ?_
    rintro r w1 ⟨rfl, k1⟩
    go_wp2_with fail
    refine (hE _ (hT.keep k1)).mono ?_
    rintro r w2 ⟨m', e', j, q1, q2, q3, rfl, k2⟩
    have hR := hd.out m' e' j q1 q2 q3
    generalize sgS (pNeg b) (Go.Proofs.YtgjhbolnnnibkaaGreatDoor.exD m' e') = S at *
    clear q1 q2 q3
    go_wp2_with fail
    refine (hR _).mono ?_
    rintro r w3 ⟨rfl, k3⟩
    go_wp2_with fail
    go_ret2
    exact ⟨rfl, (k1.trans k2).trans k3⟩
  · have hv : nV b = 0 ∧ nE b = 41 := by unfold nV nE; rw [if_neg (by omega), if_pos h1, if_neg (by omega), if_pos h1]; exact ⟨rfl, rfl⟩
    rw [hv.1, hv.2]
    rw [h1] at hP
    clear hv h1 hk
    go_enter Tryz.func6, Tryz.ntmps6
    go_wp2_with fail
    refine hP.mono ?_
    rintro r w1 ⟨rfl, k1⟩
    go_wp2_with fail
    go_ret2
    exact ⟨rfl, k1⟩
  · have hv : nV b = 0 ∧ nE b = 60 := by unfold nV nE; rw [if_pos h1, if_pos h1]; exact ⟨rfl, rfl⟩
    rw [hv.1, hv.2]
    rw [h1] at hP
    clear hv h1 hk
    go_enter Tryz.func6, Tryz.ntmps6
    go_wp2_with fail
    refine hP.mono ?_
    rintro r w1 ⟨rfl, k1⟩
    go_wp2_with fail
    go_ret2
    exact ⟨rfl, k1⟩
end Go.Proofs.YtgjhbolnnnibkaaGreatDoor.Li
