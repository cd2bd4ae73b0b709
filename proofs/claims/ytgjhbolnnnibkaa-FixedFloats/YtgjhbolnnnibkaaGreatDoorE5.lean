import Derived.Test.YtgjhbolnnnibkaaGreatDoorE4
import Derived.Test.YtgjhbolnnnibkaaGreatDoorQQ9
import Derived.Test.YtgjhbolnnnibkaaGreatDoorQQ12
import Derived.Test.YtgjhbolnnnibkaaGreatDoorAA5
import Derived.Test.YtgjhbolnnnibkaaGreatDoorAA8
import Derived.Test.YtgjhbolnnnibkaaGreatDoorAA10
import Derived.Test.YtgjhbolnnnibkaaGreatDoorCA2
import Derived.WalkKit
import Derived.WalkSpells
import Derived.WalkLawsBesides
import Derived.Laws.CopyOwn
import Derived.Deep.Draws
import Derived.Deep.QuietTactic
import Derived.BigQuiet
import Derived.Laws.MathBits
import Derived.Laws.Externs
import Derived.Laws.BytesArg
import Derived.Lib.OthersKept
import Derived.Deep.RegionWith
import Derived.WalkMore
set_option linter.unusedVariables false
set_option linter.unusedSimpArgs false
namespace Go.Proofs.YtgjhbolnnnibkaaGreatDoor.Li
open Go.RowKit Lb Nr
theorem Wide_any (w : World) : Calls Tryz.prog 21 #[] w fun e w' => e = .returned (.agg #[.int .i64 53, .int .i64 (-1074), .int .i64 971]) ∧ Keep w w' := by
  go_enter Tryz.func21, Tryz.ntmps21
  go_wp2_with fail
  refine bodyPost_ret (results_cell_row rfl _ _ w.heap.size 54 _ (0, 0) _ rfl (heap_alloc_new w _) Tryz.underlying54 rfl (by kernel_rfl)) rfl ?_
  exact ⟨rfl, (Keep.refl w).alloc _⟩
theorem nil_nv (w : World) : Nv w (.slice none 0 0) 0 := ⟨none, 0, [], rfl, by simp, by simp [Rd], by intro x hx; simp at hx, by simp [Nrm], by simp [val]⟩
theorem two_word (k m : Nat) (h : k < 32 * m) : 2 ^ k < 4294967296 ^ m := by
  rw [word_pow]
  exact Nat.pow_lt_pow_right (by omega) h
theorem nX_lt (b : Nat) : nX b < 4294967296 ^ 33 := by
  have h := pM_lt b
  have e := pE_in b
  have q : nX b ≤ pM b * 2 ^ (pE b).toNat := by
    unfold nX RN
    split
    · omega
    · exact Nat.div_le_self _ _
  have e2 : (pE b).toNat ≤ 971 := Int.toNat_le.2 e.2
  generalize (pE b).toNat = k at *
  have q2 : pM b * 2 ^ k < 2 ^ 53 * 2 ^ k := Nat.mul_lt_mul_of_pos_right h (Nat.two_pow_pos k)
  have q3 : (2 : Nat) ^ 53 * 2 ^ k < 4294967296 ^ 33 := by
    rw [← Nat.pow_add]
    exact two_word (53 + k) 33 (by omega)
  exact Nat.lt_of_le_of_lt q (Nat.lt_trans q2 q3)
theorem nY_lt (b : Nat) : nY b < 4294967296 ^ 34 := by
  have e := pE_in b
  have q : nY b ≤ 2 ^ (-(pE b)).toNat := by
    unfold nY RD
    split
    · omega
    · exact Nat.div_le_self _ _
  have e2 : (-(pE b)).toNat ≤ 1074 := Int.toNat_le.2 (by have := e.1; clear e; omega)
  generalize (-(pE b)).toNat = k at *
  have q3 : 2 ^ k < 4294967296 ^ 34 := two_word k 34 (by omega)
  exact Nat.lt_of_le_of_lt q q3
theorem nY_two (b : Nat) (h : 0 < pM b) : ∃ k, nY b = 2 ^ k := ⟨_, (lowest (pM b) (pE b) h (pM_lt b)).2⟩
theorem rnd_big {x k : Nat} (h : rndB x (2 ^ k) = false) : 9223372036854775808 < rup x (2 ^ k) := by
  have hp : 0 < 2 ^ k := Nat.two_pow_pos k
  have hs : sz (2 ^ k) = k + 1 := sz_of (Nat.le_refl _) (by rw [Nat.pow_succ]; omega)
  unfold rndB at h
  rw [decide_eq_false_iff_not] at h
  have hr : x / 2 ^ k ≤ rup x (2 ^ k) := by unfold rup; split <;> omega
  by_cases g : (sz x : Int) - (sz (2 ^ k) : Int) ≤ 63
  · have : ¬ x / 2 ^ k ≤ 9223372036854775808 := fun c => h ⟨g, c⟩
    omega
  · rw [hs] at g
    have h0 : 0 < x := by
      rcases Nat.eq_zero_or_pos x with z | z
      · subst z
        have : sz 0 = 0 := by unfold sz; simp
        omega
      · exact z
    have a := (sz_ge h0).1
    have c : 2 ^ (64 + k) ≤ 2 ^ (sz x - 1) := Nat.pow_le_pow_right (by omega) (by omega)
    have d : 18446744073709551616 * 2 ^ k ≤ x := by
      rw [Nat.pow_add] at c
      have : (2:Nat) ^ 64 = 18446744073709551616 := rfl
      rw [this] at c
      omega
    have d2 : 18446744073709551616 ≤ x / 2 ^ k := (Nat.le_div_iff_mul_le hp).2 d
    omega
theorem rnd_small {x y : Nat} (h : rndB x y = true) : rup x y < 18446744073709551616 := by
  unfold rndB at h
  rw [decide_eq_true_iff] at h
  unfold rup
  split <;> omega
theorem sg_big {ng : Bool} {u : Nat} (h : 9223372036854775808 < u) : Go.Proofs.YtgjhbolnnnibkaaGreatDoor.sgV ng u = 0 ∧ Go.Proofs.YtgjhbolnnnibkaaGreatDoor.sgE ng u = 41 := by
  constructor
  · show (if ng = true ∧ u ≤ 9223372036854775808 then _ else if ng = false ∧ u < 9223372036854775808 then _ else _) = _
    rw [if_neg (by omega), if_neg (by omega)]
  · show (if ng = true ∧ u ≤ 9223372036854775808 then _ else if ng = false ∧ u < 9223372036854775808 then _ else _) = _
    rw [if_neg (by omega), if_neg (by omega)]
/-- The reference's Ratio of what Of says. -/
theorem Ratio_of (b : Nat) (hk : pKind b < 3) (w : World) :
    Calls Tryz.prog 22 #[ofV b] w fun e w' => ∃ v1 v2, e = .returned (.tuple #[v1, v2]) ∧ Nv w' v1 (nX b) ∧ Nv w' v2 (nY b) ∧ Keep w w' := by
  unfold ofV
  have hf : pField b ≠ 2047 := by
    intro c
    unfold pKind at hk
    rw [if_pos c] at hk
    split at hk <;> omega
  rw [if_neg hf]
  rcases Nat.eq_zero_or_pos (pM b) with h | h
  · rw [h]
    refine (Ratio_zero _ _ _ _ w).mono ?_
    rintro e w' ⟨v, rfl, h1, h2⟩
    have q1 : nX b = 0 := by unfold nX RN; rw [h]; simp
    have q2 : nY b = 1 := by
      unfold nY RD
      have : 0 < 2 ^ (-(pE b)).toNat := Nat.two_pow_pos _
      rw [if_neg (by omega), h, Nat.zero_mul, Nat.gcd_zero_left, Nat.div_self this]
    rw [q1, q2]
    exact ⟨_, _, rfl, nil_nv _, h1, h2⟩
  · have hE : (if 0 < pField b then -1074 + (pField b : Int) - 1 else -1074) = pE b := by
      unfold pE
      rw [if_neg hf]
      by_cases g : 0 < pField b
      · rw [if_pos g, if_pos g]
      · rw [if_neg g, if_neg g]
        unfold pM at h
        rw [if_neg (by omega)] at h
        rw [if_pos h]
    rw [hE]
    have := pE_in b
    exact Ratio_some _ _ _ (pM b) (pE b) w h (pM_lt b) (by omega)
theorem box_first (w : World) (ng : Bool) (M : Nat) (E : Int) : (w.alloc (Obj.cells #[Value.bool ng, Value.bool false, Value.bool false, Value.int IntKind.u64 (M : Int), Value.int IntKind.i64 E] 51)).cell? ⟨w.heap.size, 0, none⟩ = some (.bool ng) := by
  rw [cell_of_row _ w.heap.size 0 _ 51 (0, 0) (heap_alloc_new w _)]; rfl
set_option maxRecDepth 100000 in
set_option maxHeartbeats 400000 in
/-- The reference's Nearest. -/
theorem rNearest_any (b : Nat) (hb : b < 18446744073709551616) (w : World) :
    Calls Tryz.prog 8 #[.int .u64 (b : Nat)] w fun r w' => r = .returned (.tuple #[.int .i64 (nV b), .int .i64 (nE b)]) ∧ Keep w w' := by
  have hW := fun wx => Wide_any wx
  have hO := fun wx => Of_any b hb wx
  have hV : Hid (ofV b = _) := (rfl : ofV b = .agg #[.bool (pNeg b), .bool (decide (pKind b = 3)), .bool (decide (pKind b = 4)), .int .u64 (pM b : Nat), .int .i64 (if pField b = 2047 then 0 else if 0 < pField b then -1074 + (pField b : Int) - 1 else -1074)])
  by_cases h4 : pKind b = 4
  · have hv : nV b = 0 ∧ nE b = 60 := by unfold nV nE; rw [if_pos h4, if_pos h4]; exact ⟨rfl, rfl⟩
    rw [hv.1, hv.2]
    have q : ofV b = .agg #[.bool (pNeg b), .bool false, .bool true, .int .u64 (pM b : Nat), .int .i64 (if pField b = 2047 then 0 else if 0 < pField b then -1074 + (pField b : Int) - 1 else -1074)] := by
      unfold ofV; rw [h4]; rfl
    rw [q] at hO
    generalize (if pField b = 2047 then 0 else if 0 < pField b then -1074 + (pField b : Int) - 1 else -1074) = E at *
    clear q hV
    generalize pNeg b = ng at *
    generalize pM b = M at *
    go_enter Tryz.func8, Tryz.ntmps8
    go_wp2_with fail
    refine (hW _).mono ?_
    rintro r w1 ⟨rfl, k1⟩
    go_wp2_with fail
    refine (hO _).mono ?_
    rintro r w2 ⟨rfl, k2⟩
    go_wp2_with fail
    go_ret2
    exact ⟨rfl, ((k1.trans k2).alloc _)⟩
  by_cases h3 : pKind b = 3
  · have hv : nV b = 0 ∧ nE b = 41 := by unfold nV nE; rw [if_neg h4, if_pos h3, if_neg h4, if_pos h3]; exact ⟨rfl, rfl⟩
    rw [hv.1, hv.2]
    have q : ofV b = .agg #[.bool (pNeg b), .bool true, .bool false, .int .u64 (pM b : Nat), .int .i64 (if pField b = 2047 then 0 else if 0 < pField b then -1074 + (pField b : Int) - 1 else -1074)] := by
      unfold ofV; rw [h3]; rfl
    rw [q] at hO
    generalize (if pField b = 2047 then 0 else if 0 < pField b then -1074 + (pField b : Int) - 1 else -1074) = E at *
    clear q hV
    generalize pNeg b = ng at *
    generalize pM b = M at *
    go_enter Tryz.func8, Tryz.ntmps8
    go_wp2_with fail
    refine (hW _).mono ?_
    rintro r w1 ⟨rfl, k1⟩
    go_wp2_with fail
    refine (hO _).mono ?_
    rintro r w2 ⟨rfl, k2⟩
    go_wp2_with fail
    go_ret2
    exact ⟨rfl, ((k1.trans k2).alloc _)⟩
  have hk : pKind b < 3 := by
    rcases kind_M b with h | h | h | h <;> omega
  have hR := fun wx => Ratio_of b hk wx
  have hF := fun wx => From_nv 1000000 wx (by omega)
  have hP := fun (v1 v2 : Value) wx (g1 : Nv wx v1 (nX b)) (g2 : Nv wx v2 1000000) => Product_nv v1 v2 (nX b) 1000000 33 wx g1 g2 (nX_lt b) (by decide +kernel) (by omega)
  have hbX : nX b * 1000000 < 4294967296 ^ 34 := by
    have a := nX_lt b
    have c : (4294967296 : Nat) ^ 34 = 4294967296 ^ 33 * 4294967296 := by rw [← Nat.pow_succ]
    rw [c]
    generalize (4294967296 : Nat) ^ 33 = Z at *
    omega
  have hQ := fun (v1 v2 : Value) wx (g1 : Nv wx v1 (nX b * 1000000)) (g2 : Nv wx v2 (nY b)) => Rounded_nv v1 v2 (nX b * 1000000) (nY b) 34 wx g1 g2 (nY_pos b) hbX (nY_lt b) (by omega)
  have hv : nV b = Go.Proofs.YtgjhbolnnnibkaaGreatDoor.sgV (pNeg b) (nR b) ∧ nE b = Go.Proofs.YtgjhbolnnnibkaaGreatDoor.sgE (pNeg b) (nR b) := by
    unfold nV nE
    rw [if_neg h4, if_neg h3, if_neg h4, if_neg h3]
    exact ⟨rfl, rfl⟩
  have hbig : Hid (rndB (nX b * 1000000) (nY b) = false → nV b = 0 ∧ nE b = 41) := by
    intro hf
    rw [hv.1, hv.2]
    rcases Nat.eq_zero_or_pos (pM b) with z | z
    · exfalso
      have q1 : nX b = 0 := by unfold nX RN; rw [z]; simp
      rw [q1, Nat.zero_mul] at hf
      unfold rndB at hf
      rw [decide_eq_false_iff_not] at hf
      apply hf
      rw [Nat.zero_div]
      have : sz 0 = 0 := by unfold sz; simp
      omega
    · obtain ⟨k, hk2⟩ := nY_two b z
      have := nR b
      have e : nR b = rup (nX b * 1000000) (nY b) := rfl
      rw [e]
      rw [hk2] at hf ⊢
      exact sg_big (rnd_big hf)
  have hsm : Hid (rndB (nX b * 1000000) (nY b) = true → rup (nX b * 1000000) (nY b) < 18446744073709551616 ∧ nV b = sgV (pNeg b) (rup (nX b * 1000000) (nY b)) ∧ nE b = sgE (pNeg b) (rup (nX b * 1000000) (nY b))) := by
    intro ht
    exact ⟨rnd_small ht, hv.1, hv.2⟩
  have hS := fun (u : Nat) (hu : u < 18446744073709551616) wx => rsigned_any (pNeg b) u hu wx
  have q : ofV b = .agg #[.bool (pNeg b), .bool false, .bool false, .int .u64 (pM b : Nat), .int .i64 (if pField b = 2047 then 0 else if 0 < pField b then -1074 + (pField b : Int) - 1 else -1074)] := by
    unfold ofV; rw [decide_eq_false h3, decide_eq_false h4]
  rw [q] at hO hR
  generalize (if pField b = 2047 then 0 else if 0 < pField b then -1074 + (pField b : Int) - 1 else -1074) = E at *
  clear q hV hv hbX hk h3 h4
  generalize nV b = rV at *
  generalize nE b = rE at *
  generalize pNeg b = ng at *
  generalize pM b = M at *
  generalize nX b = X at *
  generalize nY b = Y at *
  obtain ⟨B, hB⟩ : ∃ B, rndB (X * 1000000) Y = B := ⟨_, rfl⟩
  rw [hB] at hbig hsm
  have erup : ∀ x y, Nr.rup x y = Go.Proofs.YtgjhbolnnnibkaaGreatDoor.rup x y := fun _ _ => rfl
  simp only [hB, erup] at hQ
  clear erup
  clear hB
  generalize rup (X * 1000000) Y = U at *
  cases B
  · obtain ⟨r1, r2⟩ := hbig.out rfl
    subst r1; subst r2
    clear hbig hsm
    replace hS := hS 0 (by omega)
    simp only [Bool.false_eq_true, if_false] at hQ
    go_enter Tryz.func8, Tryz.ntmps8
    go_wp2_with fail
    refine (hW _).mono ?_
    rintro r w1 ⟨rfl, k1⟩
    go_wp2_with fail
    refine (hO _).mono ?_
    rintro r w2 ⟨rfl, k2⟩
    go_wp2_with fail
    refine (hR _).mono ?_
    rintro r w3 ⟨v1, v2, rfl, n1, n2, k3⟩
    go_wp2_with fail
    refine (hF _).mono ?_
    rintro r w4 ⟨v3, rfl, n3, k4⟩
    go_wp2_with fail
    refine (hP v1 v3 _ (n1.keep k4) n3).mono ?_
    rintro r w5 ⟨v4, rfl, n4, k5⟩
    go_wp2_with fail
    refine (hQ v4 v2 _ n4 (n2.keep (k4.trans k5))).mono ?_
    rintro r w6 ⟨rfl, k6⟩
    have hcl := Keep.cell (((k3.trans k4).trans k5).trans k6) (box_first w2 ng M E)
    go_wp2_with fail
    refine (hS _).mono ?_
    rintro r w7 ⟨x, ok, rfl, -, -, hw⟩
    subst hw
    go_wp2_with fail
    go_ret2
    exact ⟨rfl, (((((k1.trans k2).alloc _).trans k3).trans k4).trans k5).trans k6⟩
  · obtain ⟨r0, r1, r2⟩ := hsm.out rfl
    clear hbig hsm
    replace hS := hS U r0
    simp only [↓reduceIte] at hQ
    go_enter Tryz.func8, Tryz.ntmps8
    go_wp2_with fail
    refine (hW _).mono ?_
    rintro r w1 ⟨rfl, k1⟩
    go_wp2_with fail
    refine (hO _).mono ?_
    rintro r w2 ⟨rfl, k2⟩
    go_wp2_with fail
    refine (hR _).mono ?_
    rintro r w3 ⟨v1, v2, rfl, n1, n2, k3⟩
    go_wp2_with fail
    refine (hF _).mono ?_
    rintro r w4 ⟨v3, rfl, n3, k4⟩
    go_wp2_with fail
    refine (hP v1 v3 _ (n1.keep k4) n3).mono ?_
    rintro r w5 ⟨v4, rfl, n4, k5⟩
    go_wp2_with fail
    refine (hQ v4 v2 _ n4 (n2.keep (k4.trans k5))).mono ?_
    rintro r w6 ⟨rfl, k6⟩
    have hcl := Keep.cell (((k3.trans k4).trans k5).trans k6) (box_first w2 ng M E)
    go_wp2_with fail
    refine (hS _).mono ?_
    rintro r w7 ⟨x, ok, rfl, y1, y2, hw⟩
    subst hw
    cases ok
    · obtain ⟨y3, y4⟩ := y2 rfl
      go_wp2_with fail
      go_ret2
      rw [r1, r2, y3, y4]
      exact ⟨rfl, (((((k1.trans k2).alloc _).trans k3).trans k4).trans k5).trans k6⟩
    · obtain ⟨y3, y4⟩ := y1 rfl
      go_wp2_with fail
      go_ret2
      rw [r1, r2, y4]
      exact ⟨rfl, (((((k1.trans k2).alloc _).trans k3).trans k4).trans k5).trans k6⟩
end Go.Proofs.YtgjhbolnnnibkaaGreatDoor.Li
