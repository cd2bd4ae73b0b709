import Derived.Test.YtpdjpjkieafnbaaGreatDoorO2
import Derived.Test.YtpdjpjkieafnbaaGreatDoorH1
import Derived.Test.YtpdjpjkieafnbaaGreatDoorSH6
set_option linter.unusedVariables false
set_option linter.unusedSimpArgs false
namespace Go.Proofs.YtpdjpjkieafnbaaGreatDoor.Li
open Go.RowKit Lb
theorem prD : PrD := fun a ca l w h1 h2 h3 h4 => Print_dD a ca l w h1 h2 h3 h4
theorem exD_len (m : Nat) (e : Int) (hm : m < 9007199254740992) (he : -1074 ≤ e ∧ e ≤ 971) : (exD m e).length ≤ 3000 := by
  have h16 : m < 10 ^ 16 := by show m < 10000000000000000; omega
  have big : ∀ n j, n ≤ m * 10 ^ j → j ≤ 1074 → (dD n).length ≤ 1100 := by
    intro n j h hj
    obtain ⟨Z, hZ⟩ : ∃ Z, Z = 1099 := ⟨_, rfl⟩
    rw [show 1100 = Z + 1 by omega]
    apply dD_len Z
    have q3 : m * 10 ^ j < 10 ^ 16 * 10 ^ j := Nat.mul_lt_mul_of_pos_right h16 (Nat.pow_pos (by omega))
    rw [← Nat.pow_add] at q3
    exact Nat.lt_of_lt_of_le (Nat.lt_of_le_of_lt h q3) (Nat.pow_le_pow_right (by omega) (by omega))
  unfold exD
  by_cases h : 0 ≤ e
  · rw [if_pos h]
    have := big (m * 2 ^ e.toNat) e.toNat (Nat.mul_le_mul_left _ (Nat.pow_le_pow_left (by omega) _)) (by omega)
    omega
  · rw [if_neg h]
    obtain ⟨k, hk⟩ : ∃ k, (-e).toNat = k := ⟨_, rfl⟩
    rw [hk]
    have hd := big (m * 5 ^ k) k (Nat.mul_le_mul_left _ (Nat.pow_le_pow_left (by omega) _)) (by omega)
    have hl : (exZ k (dD (m * 5 ^ k))).length ≤ 2200 := by
      unfold exZ
      rw [List.length_append, List.length_replicate]
      omega
    rw [List.length_append, List.length_cons, List.length_take, List.length_drop]
    omega
/-- The exact text of a number that has digits. -/
theorem Exact_some (b : Nat) (hb : b < 18446744073709551616) (hk : pKind b = 1 ∨ pKind b = 2) (hM : 0 < pM b) (w : World) (hT : Bi.Tab w) :
    Calls Tryz.prog 23 #[.float .f64 b] w fun r w' => ∃ (m' : Nat) (e' : Int) (j : Nat), pM b = m' * 2 ^ j ∧ e' = pE b + (j : Int) ∧ (exD m' e').length ≤ 3000 ∧ r = .returned (.string ⟨(sgS (pNeg b) (exD m' e')).toArray⟩) ∧ Keep w w' := by
  have hP := Parts_any b hb w
  have hMl := pM_lt b
  have hEi := pE_in b
  have hN : ∀ wx, Calls Tryz.prog 63 #[.int .u8 (pKind b : Nat)] wx fun e w' => e = .returned (.string ⟨#[]⟩) ∧ wx = w' := fun wx => by
    have q := named_any (pKind b) (by omega) wx
    have e : nmS (pKind b) = [] := by unfold nmS; rw [if_neg (by omega), if_neg (by omega), if_neg (by omega)]
    rw [e] at q
    exact q
  obtain ⟨k, hk2⟩ : ∃ k, pKind b = k := ⟨_, rfl⟩
  rw [hk2] at hP hN hk
  have hk4 : k < 4 := by omega
  generalize pM b = m at *
  generalize pE b = e at *
  generalize pNeg b = ng at *
  clear hk2 hk
  go_enter Tryz.func23, Tryz.ntmps23
  go_wp2_with fail
  refine hP.mono ?_
  rintro r w1 ⟨rfl, k1⟩
  go_wp2_with fail
  refine (hN _).mono ?_
  rintro r wz ⟨rfl, hz⟩
  subst hz
  go_wp2_with fail
  refine (exact_any prD m e w1 hM hMl hEi (hT.keep k1)).mono ?_
  rintro r w2 ⟨m', e', j, h1, h2, h3, rfl, k2⟩
  have hm' : m' < 9007199254740992 := by
    have h5 : 0 < 2 ^ j := Nat.two_pow_pos j
    have : m' * 1 ≤ m' * 2 ^ j := Nat.mul_le_mul_left _ h5
    omega
  have hlen : (exD m' e').length ≤ 3000 := exD_len m' e' hm' h3
  have cS := signedF_any ng k (exD m' e') hk4 (by omega) w2
  have HL : Hid ((exD m' e').length ≤ 3000) := hlen
  replace h1 : Hid _ := h1
  replace h2 : Hid _ := h2
  obtain ⟨X, hX⟩ : ∃ X, exD m' e' = X := ⟨_, rfl⟩
  obtain ⟨Y, hY⟩ : ∃ Y, sgS ng X = Y := ⟨_, rfl⟩
  rw [hX] at cS
  rw [hX]
  rw [hY] at cS
  have HX : Hid (exD m' e' = X ∧ sgS ng X = Y) := ⟨hX, hY⟩
  clear hlen hX hY h3
  go_wp2_with fail
  refine cS.mono ?_
  rintro r wz ⟨rfl, hz⟩
  subst hz
  go_wp2_with fail
  go_ret
  exact ⟨m', e', j, h1.out, h2.out, HL.out, by rw [HX.out.1, HX.out.2]; rfl, k1.trans k2⟩
end Go.Proofs.YtpdjpjkieafnbaaGreatDoor.Li
set_option linter.unusedVariables false
set_option linter.unusedSimpArgs false
namespace Go.Proofs.YtpdjpjkieafnbaaGreatDoor
/-- Two quotients that are one number have the same lowest terms. -/
theorem low_one {N D N' D' : Nat} (hD : 0 < D) (hD' : 0 < D') (h : N * D' = N' * D) : N / Nat.gcd N D = N' / Nat.gcd N' D' ∧ D / Nat.gcd N D = D' / Nat.gcd N' D' := by
  have hg : 0 < Nat.gcd N D := Nat.gcd_pos_of_pos_right _ hD
  have hg' : 0 < Nat.gcd N' D' := Nat.gcd_pos_of_pos_right _ hD'
  have cop : Nat.Coprime (N / Nat.gcd N D) (D / Nat.gcd N D) := Nat.coprime_div_gcd_div_gcd hg
  have cop' : Nat.Coprime (N' / Nat.gcd N' D') (D' / Nat.gcd N' D') := Nat.coprime_div_gcd_div_gcd hg'
  have e1 : N = N / Nat.gcd N D * Nat.gcd N D := (Nat.div_mul_cancel (Nat.gcd_dvd_left _ _)).symm
  have e2 : D = D / Nat.gcd N D * Nat.gcd N D := (Nat.div_mul_cancel (Nat.gcd_dvd_right _ _)).symm
  have e3 : N' = N' / Nat.gcd N' D' * Nat.gcd N' D' := (Nat.div_mul_cancel (Nat.gcd_dvd_left _ _)).symm
  have e4 : D' = D' / Nat.gcd N' D' * Nat.gcd N' D' := (Nat.div_mul_cancel (Nat.gcd_dvd_right _ _)).symm
  generalize Nat.gcd N D = g at *
  generalize Nat.gcd N' D' = g' at *
  generalize N / g = n at *
  generalize D / g = d at *
  generalize N' / g' = n' at *
  generalize D' / g' = d' at *
  have hx : n * d' = n' * d := by
    rw [e1, e2, e3, e4] at h
    have h2 : n * d' * (g * g') = n' * d * (g * g') := by
      rw [show n * d' * (g * g') = n * g * (d' * g') by simp only [Nat.mul_assoc, Nat.mul_left_comm, Nat.mul_comm], h]
      simp only [Nat.mul_assoc, Nat.mul_left_comm, Nat.mul_comm]
    exact Nat.eq_of_mul_eq_mul_right (Nat.mul_pos hg hg') h2
  have a1 : d ∣ d' := cop.symm.dvd_of_dvd_mul_left (by rw [hx]; exact Nat.dvd_mul_left _ _)
  have a2 : d' ∣ d := cop'.symm.dvd_of_dvd_mul_left (by rw [← hx]; exact Nat.dvd_mul_left _ _)
  have ed : d = d' := Nat.dvd_antisymm a1 a2
  have d0 : 0 < d := Nat.pos_of_ne_zero (fun q => by rw [q] at e2; omega)
  refine ⟨?_, ed⟩
  rw [← ed] at hx
  exact Nat.eq_of_mul_eq_mul_right d0 hx
/-- What the law's loop keeps of a text: its digits, how many behind the point, whether a point was seen. -/
structure WS where
  d : List UInt8
  k : Nat
  p : Bool
def wsStep (s : WS) (c : UInt8) : WS := if c = 46 then ⟨s.d, s.k, true⟩ else ⟨s.d ++ [c], s.k + (if s.p then 1 else 0), s.p⟩
def ws (l : List UInt8) : WS := l.foldl wsStep ⟨[], 0, false⟩
theorem ws_nil : ws [] = ⟨[], 0, false⟩ := rfl
theorem ws_take (l : List UInt8) (i : Nat) (h : i < l.length) : ws (l.take (i + 1)) = wsStep (ws (l.take i)) l[i] := by
  unfold ws
  rw [List.take_succ_eq_append_getElem h, List.foldl_append]
  rfl
theorem ws_len (l : List UInt8) : (ws l).d.length ≤ l.length ∧ (ws l).k ≤ l.length := by
  have gen : ∀ (l : List UInt8) (s : WS), (l.foldl wsStep s).d.length ≤ s.d.length + l.length ∧ (l.foldl wsStep s).k ≤ s.k + l.length := by
    intro l
    induction l with
    | nil => intro s; simp
    | cons c l ih =>
      intro s
      rw [List.foldl_cons]
      have := ih (wsStep s c)
      have q : (wsStep s c).d.length ≤ s.d.length + 1 ∧ (wsStep s c).k ≤ s.k + 1 := by
        unfold wsStep
        split
        · simp
        · constructor
          · simp
          · show s.k + (if s.p then 1 else 0) ≤ _; split <;> omega
      simp only [List.length_cons]
      omega
  have := gen l ⟨[], 0, false⟩
  simpa [ws] using this
theorem ws_digits : ∀ (l : List UInt8) (s : WS), allD l → l.foldl wsStep s = ⟨s.d ++ l, s.k + (if s.p then l.length else 0), s.p⟩ := by
  intro l
  induction l with
  | nil => intro s _; simp
  | cons c l ih =>
    intro s h
    have hc : c ≠ 46 := fun q => by
      have := h c (List.mem_cons_self ..)
      rw [q] at this
      exact absurd this (by decide)
    rw [List.foldl_cons, ih _ (fun x hx => h x (List.mem_cons_of_mem _ hx))]
    unfold wsStep
    rw [if_neg hc]
    cases hp : s.p <;> simp [Nat.add_comm, Nat.add_left_comm, Nat.add_assoc]
theorem ws_whole {A : List UInt8} (hA : allD A) : ws A = ⟨A, 0, false⟩ := by
  unfold ws
  rw [ws_digits A _ hA]
  simp
theorem ws_point {A B : List UInt8} (hA : allD A) (hB : allD B) : ws (A ++ 46 :: B) = ⟨A ++ B, B.length, true⟩ := by
  unfold ws
  rw [List.foldl_append, ws_digits A _ hA, List.foldl_cons, ws_digits B _ hB]
  simp [wsStep]
/-- What the exact digits say, over a power of ten. -/
theorem ws_exact (m : Nat) (e : Int) : allD (ws (exD m e)).d ∧ (ws (exD m e)).d ≠ [] ∧ (if 0 ≤ e then (ws (exD m e)).k = 0 ∧ nat (ws (exD m e)).d = m * 2 ^ e.toNat else (ws (exD m e)).k = (-e).toNat ∧ nat (ws (exD m e)).d = m * 5 ^ (-e).toNat) := by
  unfold exD
  by_cases he : 0 ≤ e
  · simp only [if_pos he]
    rw [ws_whole (dD_d _ _ (Nat.le_refl _))]
    exact ⟨dD_d _ _ (Nat.le_refl _), dD_ne _, rfl, dD_nat _ _ (Nat.le_refl _)⟩
  · simp only [if_neg he]
    obtain ⟨k, hk⟩ : ∃ k, (-e).toNat = k := ⟨_, rfl⟩
    rw [hk]
    have hl := exZ_len k (dD (m * 5 ^ k))
    have hd := exZ_d k (dD_d (m * 5 ^ k) _ (Nat.le_refl _))
    have hn := exZ_nat k (dD (m * 5 ^ k))
    rw [dD_nat _ _ (Nat.le_refl _)] at hn
    generalize exZ k (dD (m * 5 ^ k)) = d at *
    rw [ws_point (hd.take _) (hd.drop _)]
    refine ⟨(hd.take _).app (hd.drop _), ?_, ?_, ?_⟩
    · show d.take _ ++ d.drop _ ≠ []
      rw [List.take_append_drop]
      intro q
      rw [q] at hl
      simp at hl
    · show (d.drop (d.length - k)).length = k
      rw [List.length_drop]
      omega
    · show nat (d.take _ ++ d.drop _) = _
      rw [List.take_append_drop]
      exact hn
/-- The exact digits over the power of ten are the number's quotient. -/
theorem exact_cross (m m' j : Nat) (e e' : Int) (h1 : m = m' * 2 ^ j) (h2 : e' = e + (j : Int)) :
    nat (ws (exD m' e')).d * (1 * 2 ^ (-e).toNat) = m * 2 ^ e.toNat * 10 ^ (ws (exD m' e')).k := by
  obtain ⟨-, -, h⟩ := ws_exact m' e'
  by_cases he : 0 ≤ e'
  · rw [if_pos he] at h
    rw [h.1, h.2, h1, Nat.pow_zero, Nat.mul_one, Nat.one_mul, Nat.mul_assoc, Nat.mul_assoc, ← Nat.pow_add, ← Nat.pow_add]
    congr 2
    omega
  · rw [if_neg he] at h
    obtain ⟨k, hk⟩ : ∃ k, (-e').toNat = k := ⟨_, rfl⟩
    rw [hk] at h
    rw [h.1, h.2, h1, show e.toNat = 0 by omega, show (-e).toNat = k + j by omega, show (10 : Nat) ^ k = 2 ^ k * 5 ^ k by rw [← Nat.mul_pow], Nat.pow_add]
    simp only [Nat.one_mul, Nat.pow_zero, Nat.mul_one, Nat.mul_assoc, Nat.mul_comm, Nat.mul_left_comm]
end Go.Proofs.YtpdjpjkieafnbaaGreatDoor
set_option linter.unusedVariables false
set_option linter.unusedSimpArgs false
namespace Go.Proofs.YtpdjpjkieafnbaaGreatDoor.Li
open Go.RowKit Lb Nr
set_option maxHeartbeats 400000 in
theorem signedF_nan (ng : Bool) (s : ByteArray) (w : World) : Calls Tryz.prog 64 #[.bool ng, .int .u8 4, .string s] w fun e w' => e = .returned (.string s) ∧ w = w' := by
  cases ng
  all_goals
    go_enter Tryz.func64, Tryz.ntmps64
    go_wp2_with fail
    go_ret
    exact ⟨rfl, rfl⟩
/-- The text of what has a name. -/
def exS (b : Nat) : List UInt8 := if pKind b = 4 then [110, 97, 110] else sgS (pNeg b) (nmS (pKind b))
set_option maxRecDepth 100000 in
set_option maxHeartbeats 400000 in
theorem Exact_named (b : Nat) (hb : b < 18446744073709551616) (hk : pKind b = 0 ∨ pKind b = 3 ∨ pKind b = 4) (w : World) :
    Calls Tryz.prog 23 #[.float .f64 b] w fun r w' => r = .returned (.string ⟨(exS b).toArray⟩) ∧ Keep w w' := by
  have hP := Parts_any b hb w
  unfold exS
  generalize pM b = m at *
  generalize pE b = e at *
  generalize pNeg b = ng at *
  have hcS0 := fun wx => signedF_any ng 0 [48] (by omega) (by simp) wx
  have hcS3 := fun wx => signedF_any ng 3 [105, 110, 102] (by omega) (by simp) wx
  have hcS4 := fun wx => signedF_nan ng ⟨#[110, 97, 110]⟩ wx
  have hN0 := fun wx => named_any 0 (by omega) wx
  have hN3 := fun wx => named_any 3 (by omega) wx
  have hN4 := fun wx => named_any 4 (by omega) wx
  rcases hk with hk | hk | hk
  · rw [hk] at hP
    rw [hk, if_neg (by omega)]
    have e0 : nmS 0 = [48] := rfl
    rw [e0] at hN0
    rw [e0]
    obtain ⟨Y, hY⟩ : ∃ Y, sgS ng [48] = Y := ⟨_, rfl⟩
    rw [hY] at hcS0
    rw [hY]
    clear hN3 hN4 hcS3 hcS4 hk hY
    go_enter Tryz.func23, Tryz.ntmps23
    go_wp2_with fail
    refine hP.mono ?_
    rintro r w1 ⟨rfl, k1⟩
    go_wp2_with fail
    refine (hN0 _).mono ?_
    rintro r wz ⟨rfl, hz⟩
    subst hz
    go_wp2_with fail
    refine (hcS0 _).mono ?_
    rintro r wz ⟨rfl, hz⟩
    subst hz
    go_wp2_with fail
    go_ret
    exact ⟨rfl, k1⟩
  · rw [hk] at hP
    rw [hk, if_neg (by omega)]
    have e0 : nmS 3 = [105, 110, 102] := rfl
    rw [e0] at hN3
    rw [e0]
    obtain ⟨Y, hY⟩ : ∃ Y, sgS ng [105, 110, 102] = Y := ⟨_, rfl⟩
    rw [hY] at hcS3
    rw [hY]
    clear hN0 hN4 hcS0 hcS4 hk hY
    go_enter Tryz.func23, Tryz.ntmps23
    go_wp2_with fail
    refine hP.mono ?_
    rintro r w1 ⟨rfl, k1⟩
    go_wp2_with fail
    refine (hN3 _).mono ?_
    rintro r wz ⟨rfl, hz⟩
    subst hz
    go_wp2_with fail
    refine (hcS3 _).mono ?_
    rintro r wz ⟨rfl, hz⟩
    subst hz
    go_wp2_with fail
    go_ret
    exact ⟨rfl, k1⟩
  · rw [hk] at hP
    rw [hk, if_pos rfl]
    have e0 : nmS 4 = [110, 97, 110] := rfl
    rw [e0] at hN4
    clear hN0 hN3 hcS0 hcS3 hk
    go_enter Tryz.func23, Tryz.ntmps23
    go_wp2_with fail
    refine hP.mono ?_
    rintro r w1 ⟨rfl, k1⟩
    go_wp2_with fail
    refine (hN4 _).mono ?_
    rintro r wz ⟨rfl, hz⟩
    subst hz
    go_wp2_with fail
    refine (hcS4 _).mono ?_
    rintro r wz ⟨rfl, hz⟩
    subst hz
    go_wp2_with fail
    go_ret
    exact ⟨rfl, k1⟩
theorem exD_head (m : Nat) (e : Int) : ∃ c T, exD m e = c :: T ∧ isD c = true := by
  have gen : ∀ {A B : List UInt8}, allD A → A ≠ [] → ∃ c T, A ++ B = c :: T ∧ isD c = true := by
    intro A B h h0
    cases A with
    | nil => exact absurd rfl h0
    | cons c A => exact ⟨c, A ++ B, rfl, h c (List.mem_cons_self ..)⟩
  unfold exD
  split
  · have := gen (A := dD (m * 2 ^ e.toNat)) (B := []) (dD_d _ _ (Nat.le_refl _)) (dD_ne _)
    rw [List.append_nil] at this
    exact this
  · apply gen ((exZ_d _ (dD_d _ _ (Nat.le_refl _))).take _)
    intro q
    have := congrArg List.length q
    rw [List.length_take] at this
    have := exZ_len (-e).toNat (dD (m * 5 ^ (-e).toNat))
    simp at *
    omega
/-- What is said of a number's exact text, its sign apart. -/
structure ExT (b : Nat) (T : List UInt8) : Prop where
  len : T.length ≤ 3000
  hd : ∃ c R, T = c :: R ∧ isD c = true
  dg : allD (ws T).d
  ne : (ws T).d ≠ []
  cr : nat (ws T).d * qY b = qX b * 10 ^ (ws T).k
theorem pM_pos {b : Nat} (h : pKind b = 1 ∨ pKind b = 2) : 0 < pM b := by
  unfold pKind at h
  unfold pM
  have : pField b < 2048 := Nat.mod_lt _ (by omega)
  split
  · omega
  · rename_i g
    split at h
    · split at h <;> omega
    · split at h
      · omega
      · split at h <;> omega
theorem pM_nil {b : Nat} (h : pKind b = 0) : pM b = 0 := by
  unfold pKind at h
  unfold pM
  have : pField b < 2048 := Nat.mod_lt _ (by omega)
  split
  · rename_i g
    rw [if_neg (by omega), if_pos (by omega)] at h
    omega
  · split at h
    · split at h <;> omega
    · split at h
      · omega
      · split at h
        · omega
        · omega
theorem pKind_in (b : Nat) : pKind b ≤ 4 := by
  unfold pKind
  (repeat' split) <;> omega
/-- Exact, of every number. -/
theorem Exact_all (b : Nat) (hb : b < 18446744073709551616) (w : World) (hT : Bi.Tab w) :
    Calls Tryz.prog 23 #[.float .f64 b] w fun r w' => ∃ X : List UInt8, r = .returned (.string ⟨X.toArray⟩) ∧ Keep w w' ∧ (qB b = true → X = [110, 97, 110] ∨ X = [105, 110, 102] ∨ X = [45, 105, 110, 102]) ∧ (qB b = false → ∃ T, X = sgS (pNeg b) T ∧ ExT b T) := by
  have hin := pKind_in b
  by_cases hk : pKind b = 1 ∨ pKind b = 2
  · refine (Exact_some b hb hk (pM_pos hk) w hT).mono ?_
    rintro r w' ⟨m', e', j, h1, h2, h3, rfl, k⟩
    refine ⟨_, rfl, k, ?_, ?_⟩
    · intro h
      have := of_decide_eq_true h
      omega
    · intro _
      obtain ⟨a1, a2, -⟩ := ws_exact m' e'
      exact ⟨_, rfl, h3, exD_head _ _, a1, a2, exact_cross (pM b) m' j (pE b) e' h1 h2⟩
  · refine (Exact_named b hb (by omega) w).mono ?_
    rintro r w' ⟨rfl, k⟩
    refine ⟨_, rfl, k, ?_, ?_⟩
    · intro h
      have h2 : pKind b = 3 ∨ pKind b = 4 := of_decide_eq_true h
      unfold exS
      rcases h2 with h2 | h2
      · rw [h2, if_neg (by omega)]
        cases pNeg b
        · exact .inr (.inl rfl)
        · exact .inr (.inr rfl)
      · rw [if_pos h2]
        exact .inl rfl
    · intro h
      have h2 : ¬ (pKind b = 3 ∨ pKind b = 4) := of_decide_eq_false h
      have h3 : pKind b = 0 := by omega
      refine ⟨[48], by unfold exS; rw [h3]; rfl, by simp, ⟨48, [], rfl, by decide⟩, ?_, ?_, ?_⟩
      · have e : ws [48] = ⟨[48], 0, false⟩ := rfl
        rw [e]
        intro c hc
        have : c = 48 := by simpa using hc
        rw [this]
        decide
      · have e : ws [48] = ⟨[48], 0, false⟩ := rfl
        rw [e]
        simp
      · have e : ws [48] = ⟨[48], 0, false⟩ := rfl
        rw [e]
        have q : qX b = 0 := by unfold qX; rw [pM_nil h3, Nat.zero_mul]
        rw [q]
        show nat [48] * qY b = 0 * 10 ^ 0
        have : nat [48] = 0 := by decide
        rw [this, Nat.zero_mul, Nat.zero_mul]
end Go.Proofs.YtpdjpjkieafnbaaGreatDoor.Li
