import Derived.Test.YtgciimjcdhallaaDoorM5
set_option linter.unusedVariables false
set_option linter.unusedSimpArgs false
namespace Go.Proofs.YtgciimjcdhallaaDoor
open Go.RowKit Go.Shelf
theorem keep_tab {w w' : World} (h : Tb w) (k : Keep w w') : Tb w' := by
  unfold Tb Lib.TabIs World.var? at h ⊢
  cases hg : Tryd.prog.globalNamed "internal/strconv.uint64pow10" with
  | none => simp [hg] at h
  | some g =>
    simp only [hg, Option.bind_some] at h ⊢
    have hlt : g < w.heap.size := by
      rcases Nat.lt_or_ge g w.heap.size with h' | h'
      · exact h'
      · rw [Array.getElem?_eq_none h'] at h; simp at h
    rw [k.block g hlt]
    exact h
theorem dec_dD (n : Nat) : ∀ k, n ≤ k → Lib.decDigits n = dD n := by
  intro k
  induction k generalizing n with
  | zero => intro h; rw [Lib.decDigits, dD, dif_pos (by omega), dif_pos (by omega)]
  | succ k ih =>
    intro h
    rw [Lib.decDigits, dD]
    by_cases q : n < 10
    · rw [dif_pos q, dif_pos q]
    · rw [dif_neg q, dif_neg q, ih (n / 10) (by omega)]
theorem FormatUint_in (u : Nat) (w : World) (hu : u < 18446744073709551616) (hT : Tb w) :
    Calls Tryd.prog 38 #[.int .u64 (u : Int), .int .i64 10] w fun e w' => e = .returned (.string ⟨(dD u).toArray⟩) ∧ Keep w w' := by
  rw [← dec_dD u u (Nat.le_refl _)]
  by_cases h : u < 100
  · exact FormatUint_small u w h
  · exact FormatUint_great u w h hu hT
set_option maxRecDepth 100000 in
theorem FormatUint_any (u : Nat) (w : World) (hu : u < 18446744073709551616) (hT : Tb w) :
    Calls Tryd.prog 22 #[.int .u64 (u : Int), .int .i64 10] w fun e w' => e = .returned (.string ⟨(dD u).toArray⟩) ∧ Keep w w' := by
  have h := FormatUint_in u w hu hT
  generalize dD u = l at h ⊢
  go_enter Tryd.func22, Tryd.ntmps22
  go_wp2_with (go_at_call 38; refine h.mono ?_; rintro e w2 ⟨rfl, k2⟩)
  go_ret
  exact ⟨rfl, k2⟩
set_option maxRecDepth 100000 in
set_option maxHeartbeats 800000 in
theorem Print_any (v : Int) (w : World) (hv : I64 v) (hT : Tb w) :
    Calls Tryd.prog 8 #[.int .i64 v] w fun e w' => e = .returned (.string ⟨(prt v).toArray⟩) ∧ Keep w w' := by
  have hA := fun wx => (amount_any v hv wx).mono (fun e w' h => (⟨h.1, h.2.symm⟩ : e = .returned (.int .u64 (v.natAbs : Nat)) ∧ wx = w'))
  have hb := amt_lt hv
  obtain ⟨n, hn⟩ : ∃ n, v.natAbs = n := ⟨_, rfl⟩
  rw [hn] at hA hb
  obtain ⟨q, hq⟩ : ∃ q, n / 1000000 = q := ⟨_, rfl⟩
  obtain ⟨r, hr⟩ : ∃ r, n % 1000000 = r := ⟨_, rfl⟩
  have hqI : (n : Int) / 1000000 = (q : Int) := by omega
  have hrI : (n : Int) % 1000000 = (r : Int) := by omega
  have hr6 : r < 1000000 := by omega
  have hD1 := FormatUint_any q w (by omega) hT
  have hD2 := fun wx (kx : Keep w wx) => FormatUint_any (1000000 + r) wx (by omega) (keep_tab hT kx)
  rw [dD_tail hr6] at hD2
  have hcst : ((1000000 + r : Nat) : Int) = 1000000 + (r : Int) := by omega
  rw [hcst] at hD2
  have HP : Hid (prt v = (if v < 0 then [45] else []) ++ (dD q ++ if r = 0 then [] else 46 :: tr0 (pad6 (dD r)))) := by
    show _ = _
    unfold prt
    rw [hn, hq, hr]
  clear hn hq hr hcst
  obtain ⟨S, hS⟩ : ∃ S, dD q = S := ⟨_, rfl⟩
  have hSl : S.length ≤ 20 := by rw [← hS]; exact dD_len 19 q (by have : (10 : Nat) ^ 20 = 100000000000000000000 := by decide
                                                                  omega)
  obtain ⟨PD, hPD⟩ : ∃ PD, pad6 (dD r) = PD := ⟨_, rfl⟩
  have hPl : PD.length = 6 := by
    rw [← hPD]
    unfold pad6
    have := dD_len 5 r (by omega)
    simp
    omega
  rw [hS] at hD1 HP
  rw [hPD] at hD2 HP
  have hcut : ∀ wx, (Instr.slice 9 (.string ⟨(49 :: PD).toArray⟩) (some (.int .i64 1)) none none).run Tryd.prog wx = .ok (.string ⟨PD.toArray⟩) wx := fun wx => run_from (49 :: PD) 1 (by simp) wx
  have hTR := fun wx => (tr_of PD (by omega) wx).mono (fun e w' h => (⟨h.1, h.2.symm⟩ : e = .returned (.string ⟨(tr0 PD).toArray⟩) ∧ wx = w'))
  obtain ⟨R, hR⟩ : ∃ R, tr0 PD = R := ⟨_, rfl⟩
  have hRl : R.length ≤ 6 := by
    rw [← hR, ← hPl]
    unfold tr0
    rw [List.length_reverse]
    have := (List.dropWhile_suffix (fun b : UInt8 => b == 48) (l := PD.reverse)).length_le
    rw [List.length_reverse] at this
    exact this
  rw [hR] at hTR HP
  have sR : (ByteArray.mk R.toArray).size = R.length := sz_mk R
  have sS : (ByteArray.mk S.toArray).size = S.length := sz_mk S
  have s45 : (ByteArray.mk #[45]).size = 1 := rfl
  have s46 : (ByteArray.mk #[46]).size = 1 := rfl
  have hc1 : (ByteArray.mk #[46]) ++ (ByteArray.mk R.toArray) = ByteArray.mk (46 :: R).toArray := catB [46] R
  have s47 : (ByteArray.mk (46 :: R).toArray).size = R.length + 1 := by rw [sz_mk]; rfl
  have hc2 : (ByteArray.mk S.toArray) ++ (ByteArray.mk (46 :: R).toArray) = ByteArray.mk (S ++ 46 :: R).toArray := catB S (46 :: R)
  have s49 : (ByteArray.mk (S ++ 46 :: R).toArray).size = S.length + (R.length + 1) := by rw [sz_mk]; simp
  have hc3 : (ByteArray.mk #[45]) ++ (ByteArray.mk (S ++ 46 :: R).toArray) = ByteArray.mk (45 :: (S ++ 46 :: R)).toArray := catB [45] _
  have hc4 : (ByteArray.mk #[45]) ++ (ByteArray.mk S.toArray) = ByteArray.mk (45 :: S).toArray := catB [45] S
  have t1 : True := trivial
  clear hS hPD hR hPl
  by_cases hv0 : v < 0 <;> by_cases hr0 : r = 0
  · have hrb : ((r : Int) == 0) = true := by rw [hr0]; rfl
    rw [if_pos hv0, if_pos hr0] at HP
    clear hr0
    go_enter Tryd.func8, Tryd.ntmps8
    go_wp2_with (first
      | (go_at_call 21; refine (hA _).mono ?_; rintro e w2 ⟨rfl, rfl⟩)
      | (go_at_call 22; clear t1; refine hD1.mono ?_; rintro e w3 ⟨rfl, k3⟩; have K3 : Hid (Keep w w3) := k3; clear k3)
      | (go_at_call 22; refine (hD2 _ K3.out).mono ?_; rintro e w4 ⟨rfl, k4⟩; have K4 : Hid (Keep w w4) := K3.out.trans k4; clear k4)
      | (go_at_call 23; refine (hTR _).mono ?_; rintro e w5 ⟨rfl, rfl⟩))
    go_ret
    exact ⟨by rw [HP.out]; first | rfl | simp, K3.out⟩
  · have hrn : ¬ (r : Int) = 0 := by omega
    have hrb : ((r : Int) == 0) = false := by simpa using hrn
    rw [if_pos hv0, if_neg hr0] at HP
    clear hr0
    go_enter Tryd.func8, Tryd.ntmps8
    go_wp2_with (first
      | (go_at_call 21; refine (hA _).mono ?_; rintro e w2 ⟨rfl, rfl⟩)
      | (go_at_call 22; clear t1; refine hD1.mono ?_; rintro e w3 ⟨rfl, k3⟩; have K3 : Hid (Keep w w3) := k3; clear k3)
      | (go_at_call 22; refine (hD2 _ K3.out).mono ?_; rintro e w4 ⟨rfl, k4⟩; have K4 : Hid (Keep w w4) := K3.out.trans k4; clear k4)
      | (go_at_call 23; refine (hTR _).mono ?_; rintro e w5 ⟨rfl, rfl⟩))
    go_ret
    exact ⟨by rw [HP.out]; first | rfl | simp, K4.out⟩
  · have hrb : ((r : Int) == 0) = true := by rw [hr0]; rfl
    rw [if_neg hv0, if_pos hr0] at HP
    clear hr0
    go_enter Tryd.func8, Tryd.ntmps8
    go_wp2_with (first
      | (go_at_call 21; refine (hA _).mono ?_; rintro e w2 ⟨rfl, rfl⟩)
      | (go_at_call 22; clear t1; refine hD1.mono ?_; rintro e w3 ⟨rfl, k3⟩; have K3 : Hid (Keep w w3) := k3; clear k3)
      | (go_at_call 22; refine (hD2 _ K3.out).mono ?_; rintro e w4 ⟨rfl, k4⟩; have K4 : Hid (Keep w w4) := K3.out.trans k4; clear k4)
      | (go_at_call 23; refine (hTR _).mono ?_; rintro e w5 ⟨rfl, rfl⟩))
    go_ret
    exact ⟨by rw [HP.out]; first | rfl | simp, K3.out⟩
  · have hrn : ¬ (r : Int) = 0 := by omega
    have hrb : ((r : Int) == 0) = false := by simpa using hrn
    rw [if_neg hv0, if_neg hr0] at HP
    clear hr0
    go_enter Tryd.func8, Tryd.ntmps8
    go_wp2_with (first
      | (go_at_call 21; refine (hA _).mono ?_; rintro e w2 ⟨rfl, rfl⟩)
      | (go_at_call 22; clear t1; refine hD1.mono ?_; rintro e w3 ⟨rfl, k3⟩; have K3 : Hid (Keep w w3) := k3; clear k3)
      | (go_at_call 22; refine (hD2 _ K3.out).mono ?_; rintro e w4 ⟨rfl, k4⟩; have K4 : Hid (Keep w w4) := K3.out.trans k4; clear k4)
      | (go_at_call 23; refine (hTR _).mono ?_; rintro e w5 ⟨rfl, rfl⟩))
    go_ret
    exact ⟨by rw [HP.out]; first | rfl | simp, K4.out⟩
end Go.Proofs.YtgciimjcdhallaaDoor
