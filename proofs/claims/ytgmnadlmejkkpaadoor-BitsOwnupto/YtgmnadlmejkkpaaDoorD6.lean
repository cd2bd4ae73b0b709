import Derived.Test.YtgmnadlmejkkpaaDoorD5
set_option linter.unusedVariables false
set_option linter.unusedSimpArgs false
namespace Go.Proofs.YtgmnadlmejkkpaaDoor
open Go.RowKit
/-- A set that is made, or refused: what the words are. -/
def Ok3 (bad : Prop) (n : Nat) (f : Nat → Bool) (l : List Nat) : Prop := (bad ∧ l = []) ∨ (¬ bad ∧ n ≤ 1048576 ∧ mkl n f l)
theorem Ok3.eq {bad : Prop} {n : Nat} {f : Nat → Bool} {l m : List Nat} (h : Ok3 bad n f l) (k : Ok3 bad n f m) : l = m := by
  rcases h with ⟨h1, rfl⟩ | ⟨h1, -, h2⟩ <;> rcases k with ⟨k1, rfl⟩ | ⟨k1, -, k2⟩
  · rfl
  · exact absurd h1 k1
  · exact absurd k1 h1
  · exact mkl_eq h2 k2
theorem Ok3.few {bad : Prop} {n : Nat} {f : Nat → Bool} {l : List Nat} (h : Ok3 bad n f l) : l.length ≤ 16384 := by
  rcases h with ⟨-, rfl⟩ | ⟨-, h1, h2⟩
  · simp
  · rw [h2.1]; omega
theorem Ok3.w64 {bad : Prop} {n : Nat} {f : Nat → Bool} {l : List Nat} (h : Ok3 bad n f l) : W64 l := by
  rcases h with ⟨-, rfl⟩ | ⟨-, h1, h2⟩
  · intro x hx; simp at hx
  · exact h2.2.1
def SetA (w w' : World) (e : Ending) (bad : Prop) (E : Int) (n : Nat) (f : Nat → Bool) : Prop :=
  ∃ a c l, e = .returned (.tuple #[.slice a l.length c, .int .i64 E]) ∧ l.length ≤ c ∧ Rd w' a l ∧ Ok3 bad n f l ∧ Keep w w'
theorem SetA.ok {w w' : World} {bad : Prop} {n : Nat} {f : Nat → Bool} {l : List Nat} (hb : ¬ bad) (hn : n ≤ 1048576) (h1 : Row w' w.heap.size l) (h2 : mkl n f l) (k : Keep w w') (E : Int) (hE : E = 0) :
    SetA w w' (.returned (.tuple #[.slice (some ⟨w.heap.size, 0, none⟩) l.length l.length, .int .i64 0])) bad E n f := by
  subst hE
  refine ⟨_, _, l, rfl, Nat.le_refl _, ?_, .inr ⟨hb, hn, h2⟩, k⟩
  have := h1.rd 0 l.length (by omega)
  rw [List.drop_zero, List.take_of_length_le (Nat.le_refl _)] at this
  exact this
theorem SetA.no {w w' : World} {bad : Prop} (n : Nat) (f : Nat → Bool) (hb : bad) (k : Keep w w') (E : Int) (hE : E = 2) :
    SetA w w' (.returned (.tuple #[.slice none 0 0, .int .i64 2])) bad E n f := by
  subst hE
  exact ⟨none, 0, [], rfl, Nat.le_refl _, Rd.nil _ _, .inl ⟨hb, rfl⟩, k⟩
def nbad (n : Int) : Prop := n < 0 ∨ 1048576 < n
def mE (n a b : Int) : Int := if mno n a b then 2 else 0
theorem Full_set (n : Int) (w : World) : Calls Tryd.prog 13 #[.int .i64 n] w fun e w' => SetA w w' e (nbad n) (wdE n) n.toNat (fun _ => true) := by
  by_cases h : n < 0 ∨ 1048576 < n
  · refine (Full_no n w h).mono ?_
    rintro e w' ⟨rfl, k⟩
    exact SetA.no _ _ h k _ (wd_no h).2
  · obtain ⟨m, rfl⟩ := Int.eq_ofNat_of_zero_le (show 0 ≤ n by omega)
    refine (Full_ok m w (by omega)).mono ?_
    rintro e w' ⟨l, rfl, h1, h2, k⟩
    exact SetA.ok h (by omega) h1 h2 k _ (wd_ok h).2
theorem rFull_set (n : Int) (w : World) : Calls Tryd.prog 17 #[.int .i64 n] w fun e w' => SetA w w' e (nbad n) (wdE n) n.toNat (fun _ => true) := by
  by_cases h : n < 0 ∨ 1048576 < n
  · refine (rFull_no n w h).mono ?_
    rintro e w' ⟨rfl, rfl⟩
    exact SetA.no _ _ h (Keep.refl _) _ (wd_no h).2
  · obtain ⟨m, rfl⟩ := Int.eq_ofNat_of_zero_le (show 0 ≤ n by omega)
    refine (rFull_ok m w (by omega)).mono ?_
    rintro e w' ⟨l, rfl, h1, h2, k⟩
    exact SetA.ok h (by omega) h1 h2 k _ (wd_ok h).2
theorem Empty_set (n : Int) (w : World) : Calls Tryd.prog 14 #[.int .i64 n] w fun e w' => SetA w w' e (nbad n) (wdE n) n.toNat (fun _ => false) := by
  by_cases h : n < 0 ∨ 1048576 < n
  · refine (Empty_no n w h).mono ?_
    rintro e w' ⟨rfl, rfl⟩
    exact SetA.no _ _ h (Keep.refl _) _ (wd_no h).2
  · obtain ⟨m, rfl⟩ := Int.eq_ofNat_of_zero_le (show 0 ≤ n by omega)
    refine (Empty_mkl m w (by omega)).mono ?_
    rintro e w' ⟨l, rfl, h1, h2, k⟩
    exact SetA.ok h (by omega) h1 h2 k _ (wd_ok h).2
theorem rEmpty_set (n : Int) (w : World) : Calls Tryd.prog 18 #[.int .i64 n] w fun e w' => SetA w w' e (nbad n) (wdE n) n.toNat (fun _ => false) := by
  by_cases h : n < 0 ∨ 1048576 < n
  · refine (rEmpty_no n w h).mono ?_
    rintro e w' ⟨rfl, rfl⟩
    exact SetA.no _ _ h (Keep.refl _) _ (wd_no h).2
  · obtain ⟨m, rfl⟩ := Int.eq_ofNat_of_zero_le (show 0 ≤ n by omega)
    refine (rEmpty_ok m w (by omega)).mono ?_
    rintro e w' ⟨l, rfl, h1, h2, k⟩
    exact SetA.ok h (by omega) h1 h2 k _ (wd_ok h).2
/-- The bits that a mask leaves. -/
def mf (a b : Int) (i : Nat) : Bool := !decide (a.toNat ≤ i ∧ i < b.toNat)
theorem Mask_set (n a b : Int) (w : World) : Calls Tryd.prog 15 #[.int .i64 n, .int .i64 a, .int .i64 b] w fun e w' => SetA w w' e (mno n a b) (mE n a b) n.toNat (mf a b) := by
  by_cases h : mno n a b
  · refine (Mask_no n a b w h).mono ?_
    rintro e w' ⟨rfl, k⟩
    exact SetA.no _ _ h k _ (by unfold mE; rw [if_pos h])
  · have h' := h
    unfold mno at h'
    obtain ⟨m, rfl⟩ := Int.eq_ofNat_of_zero_le (show 0 ≤ n by omega)
    obtain ⟨x, rfl⟩ := Int.eq_ofNat_of_zero_le (show 0 ≤ a by omega)
    obtain ⟨y, rfl⟩ := Int.eq_ofNat_of_zero_le (show 0 ≤ b by omega)
    refine (Mask_ok m x y w (by omega) (by omega) (by omega)).mono ?_
    rintro e w' ⟨l, rfl, h1, h2, k⟩
    exact SetA.ok h (by omega) h1 h2 k _ (by unfold mE; rw [if_neg h])
theorem rMask_set (n a b : Int) (w : World) : Calls Tryd.prog 19 #[.int .i64 n, .int .i64 a, .int .i64 b] w fun e w' => SetA w w' e (mno n a b) (mE n a b) n.toNat (mf a b) := by
  by_cases h : mno n a b
  · refine (rMask_no n a b w h).mono ?_
    rintro e w' ⟨rfl, rfl⟩
    exact SetA.no _ _ h (Keep.refl _) _ (by unfold mE; rw [if_pos h])
  · have h' := h
    unfold mno at h'
    obtain ⟨m, rfl⟩ := Int.eq_ofNat_of_zero_le (show 0 ≤ n by omega)
    obtain ⟨x, rfl⟩ := Int.eq_ofNat_of_zero_le (show 0 ≤ a by omega)
    obtain ⟨y, rfl⟩ := Int.eq_ofNat_of_zero_le (show 0 ≤ b by omega)
    refine (rMask_ok m x y w (by omega) (by omega) (by omega)).mono ?_
    rintro e w' ⟨l, rfl, h1, h2, k⟩
    exact SetA.ok h (by omega) h1 h2 k _ (by unfold mE; rw [if_neg h])
set_option maxRecDepth 100000 in
set_option maxHeartbeats 1000000 in
theorem law_made (n a b : Int) (w : World) (hT : Tab w) :
    Calls Tryd.prog 3 #[.int .i64 n, .int .i64 a, .int .i64 b] w fun e w' => e = .returned (.bool true) ∧ Keep w w' := by
  have hW1 := Words_any n w
  have hW2 := fun w => rWords_any n w
  have F1 := fun w => Full_set n w
  have F2 := fun w => rFull_set n w
  have E1 := fun w => Empty_set n w
  have E2 := fun w => rEmpty_set n w
  have M1 := fun w => Mask_set n a b w
  have M2 := fun w => rMask_set n a b w
  generalize wdN n = wn at hW1 hW2
  generalize wdE n = we at hW1 hW2 F1 F2 E1 E2
  generalize mE n a b = me at M1 M2
  go_enter Tryd.func3, Tryd.ntmps3
  go_wp2_with fail
  refine hW1.mono ?_
  rintro e w1 ⟨rfl, rfl⟩
  clear hW1
  go_wp2_with fail
  refine (F1 _).mono ?_
  rintro e w2 ⟨aF, cF, lF, rfl, gF, rF, oF, k2⟩
  go_wp2_with fail
  refine (E1 _).mono ?_
  rintro e w3 ⟨aE, cE, lE, rfl, gE, rE, oE, k3⟩
  go_wp2_with fail
  refine (M1 _).mono ?_
  rintro e w4 ⟨aM, cM, lM, rfl, gM, rM, oM, k4⟩
  go_wp2_with fail
  refine (hW2 _).mono ?_
  rintro e w4' ⟨rfl, rfl⟩
  go_wp2_with fail
  refine (F2 _).mono ?_
  rintro e w5 ⟨aG, cG, lG, rfl, gG, rG, oG, k5⟩
  go_wp2_with fail
  refine (E2 _).mono ?_
  rintro e w6 ⟨aH, cH, lH, rfl, gH, rH, oH, k6⟩
  go_wp2_with fail
  refine (M2 _).mono ?_
  rintro e w7 ⟨aN, cN, lN, rfl, gN, rN, oN, k7⟩
  obtain rfl := oF.eq oG
  obtain rfl := oE.eq oH
  obtain rfl := oM.eq oN
  have k27 := (((k3.trans k4).trans k5).trans k6).trans k7
  have k37 := ((k4.trans k5).trans k6).trans k7
  have k47 := (k5.trans k6).trans k7
  have k57 := k6.trans k7
  have hk7 := k2.trans k27
  have fF := oF.few
  have fE := oE.few
  have fM := oM.few
  have hLv := lives_any w7 (hT.keep hk7)
  have hS1 := fun wx (h : Keep w7 wx) => Same_any aF aG cF cG lF wx (by omega) (rF.keep (k27.trans h)) (rG.keep (k57.trans h))
  have hS2 := fun wx (h : Keep w7 wx) => Same_any aE aH cE cH lE wx (by omega) (rE.keep (k37.trans h)) (rH.keep (k7.trans h))
  have hS3 := fun wx (h : Keep w7 wx) => Same_any aM aN cM cN lM wx (by omega) (rM.keep (k47.trans h)) (rN.keep h)
  clear F1 F2 E1 E2 M1 M2 hW2 oF oG oE oH oM oN rF rE rM rG rH rN
  go_wp2_with fail
  refine hLv.mono ?_
  rintro e w8 ⟨rfl, k8⟩
  go_wp2_with fail
  refine (hS1 w8 k8).mono ?_
  rintro e w9 ⟨rfl, k9⟩
  have k79 := k8.trans k9
  go_wp2_with fail
  refine (hS2 w9 k79).mono ?_
  rintro e wA ⟨rfl, kA⟩
  have k7A := k79.trans kA
  go_wp2_with fail
  refine (hS3 wA k7A).mono ?_
  rintro e wB ⟨rfl, kB⟩
  go_wp2_with fail
  go_ret
  exact ⟨rfl, hk7.trans (k7A.trans kB)⟩
end Go.Proofs.YtgmnadlmejkkpaaDoor
