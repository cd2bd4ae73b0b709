import Derived.Test.YtgciimjcdhallaaDoorM3
set_option linter.unusedVariables false
set_option linter.unusedSimpArgs false
namespace Go.Proofs.YtgciimjcdhallaaDoor
open Go.RowKit Go.Shelf
theorem tr0_zero (l : List UInt8) : tr0 (l ++ [48]) = tr0 l := by unfold tr0; rw [List.reverse_append]; simp
theorem tr0_other (l : List UInt8) {b : UInt8} (h : b ≠ 48) : tr0 (l ++ [b]) = l ++ [b] := by
  unfold tr0
  rw [List.reverse_append]
  simp [h]
theorem dD_d (n : Nat) : ∀ k, n ≤ k → allD (dD n) := by
  intro k
  induction k generalizing n with
  | zero =>
    intro h
    rw [dD_small (by omega)]
    intro b hb
    have : b = UInt8.ofNat (48 + n) := by simpa using hb
    rw [this, show n = 0 by omega]
    decide
  | succ k ih =>
    intro h
    have one : ∀ m, m < 10 → isD (UInt8.ofNat (48 + m)) = true := by
      intro m hm
      unfold isD
      apply decide_eq_true
      rw [ofNat_toNat (by omega)]
      omega
    by_cases q : n < 10
    · rw [dD_small q]
      intro b hb
      have : b = UInt8.ofNat (48 + n) := by simpa using hb
      rw [this]
      exact one n q
    · rw [dD_step q]
      refine (ih (n / 10) (by omega)).app ?_
      intro b hb
      have : b = UInt8.ofNat (48 + n % 10) := by simpa using hb
      rw [this]
      exact one _ (by omega)
theorem dD_nat (n : Nat) : ∀ k, n ≤ k → nat (dD n) = n := by
  intro k
  induction k generalizing n with
  | zero =>
    intro h
    rw [dD_small (by omega), show n = 0 by omega]
    rfl
  | succ k ih =>
    intro h
    by_cases q : n < 10
    · rw [dD_small q, nat_cons]
      unfold dv
      rw [ofNat_toNat (by omega)]
      simp [nat]
    · rw [dD_step q, nat_append, ih (n / 10) (by omega), nat_cons]
      unfold dv
      rw [ofNat_toNat (by omega)]
      simp [nat]
      omega
/-- Six digits. -/
def pad6 (l : List UInt8) : List UInt8 := List.replicate (6 - l.length) 48 ++ l
theorem dD_ahead (k : Nat) : ∀ r, r < 10 ^ (k + 1) → dD (10 ^ (k + 1) + r) = 49 :: (List.replicate (k + 1 - (dD r).length) 48 ++ dD r) := by
  induction k with
  | zero =>
    intro r h
    have h10 : r < 10 := by simpa using h
    rw [dD_small h10, dD_step (by simp), dD_small (by simp; omega)]
    have e1 : (10 ^ (0 + 1) + r) / 10 = 1 := by simp; omega
    have e2 : (10 ^ (0 + 1) + r) % 10 = r := by simp; omega
    rw [e1, e2]
    rfl
  | succ k ih =>
    intro r h
    have hp : (10 : Nat) ^ (k + 1 + 1) = 10 * 10 ^ (k + 1) := by rw [Nat.pow_succ, Nat.mul_comm]
    have hp1 : 1 ≤ (10 : Nat) ^ (k + 1) := Nat.pow_pos (by omega)
    rw [hp] at h ⊢
    have e1 : (10 * 10 ^ (k + 1) + r) / 10 = 10 ^ (k + 1) + r / 10 := by omega
    have e2 : (10 * 10 ^ (k + 1) + r) % 10 = r % 10 := by omega
    rw [dD_step (by omega), e1, e2, ih (r / 10) (by omega)]
    by_cases q : r < 10
    · rw [dD_small q, show r / 10 = 0 by omega, Nat.mod_eq_of_lt q]
      have : dD 0 = [48] := dD_small (by omega)
      rw [this]
      show 49 :: (List.replicate (k + 1 - 1) 48 ++ [48] ++ [UInt8.ofNat (48 + r)]) = 49 :: (List.replicate (k + 1 + 1 - 1) 48 ++ [UInt8.ofNat (48 + r)])
      rw [← List.replicate_succ', show k + 1 - 1 + 1 = k + 1 + 1 - 1 by omega]
    · have e3 := dD_step q
      have e4 : (dD r).length = (dD (r / 10)).length + 1 := by rw [e3, List.length_append]; rfl
      rw [e4, e3, show k + 1 + 1 - ((dD (r / 10)).length + 1) = k + 1 - (dD (r / 10)).length by omega, List.cons_append, List.append_assoc]
theorem dD_tail {r : Nat} (h : r < 1000000) : dD (1000000 + r) = 49 :: pad6 (dD r) := dD_ahead 5 r h
/-- What Print writes. -/
def prt (v : Int) : List UInt8 := (if v < 0 then [45] else []) ++ (dD (v.natAbs / 1000000) ++ if v.natAbs % 1000000 = 0 then [] else 46 :: tr0 (pad6 (dD (v.natAbs % 1000000))))
set_option maxRecDepth 100000 in
set_option maxHeartbeats 800000 in
theorem rPrint_any (v : Int) (w : World) (hv : I64 v) :
    Calls Tryd.prog 9 #[.int .i64 v] w fun e w' => e = .returned (.string ⟨(prt v).toArray⟩) ∧ Keep w w' := by
  have hA := fun wx => (ramount_any v hv wx).mono (fun e w' h => (⟨h.1, h.2.symm⟩ : e = .returned (.int .u64 (v.natAbs : Nat)) ∧ wx = w'))
  have hb := amt_lt hv
  obtain ⟨n, hn⟩ : ∃ n, v.natAbs = n := ⟨_, rfl⟩
  rw [hn] at hA hb
  obtain ⟨q, hq⟩ : ∃ q, n / 1000000 = q := ⟨_, rfl⟩
  obtain ⟨r, hr⟩ : ∃ r, n % 1000000 = r := ⟨_, rfl⟩
  have hqI : (n : Int) / 1000000 = (q : Int) := by omega
  have hrI : (n : Int) % 1000000 = (r : Int) := by omega
  have hr6 : r < 1000000 := by omega
  have hD1 := fun wx => digitsOf_any q wx (by omega)
  have hD2 := fun wx => digitsOf_any r wx (by omega)
  have HP : Hid (prt v = (if v < 0 then [45] else []) ++ (dD q ++ if r = 0 then [] else 46 :: tr0 (pad6 (dD r)))) := by
    show _ = _
    unfold prt
    rw [hn, hq, hr]
  clear hn hq hr
  obtain ⟨S, hS⟩ : ∃ S, dD q = S := ⟨_, rfl⟩
  have hSl : S.length ≤ 20 := by rw [← hS]; exact dD_len 19 q (by have : (10 : Nat) ^ 20 = 100000000000000000000 := by decide
                                                                  omega)
  obtain ⟨D, hD⟩ : ∃ D, dD r = D := ⟨_, rfl⟩
  have hDl : D.length ≤ 6 := by rw [← hD]; exact dD_len 5 r (by omega)
  have HN : Hid (nat D = r) := by rw [← hD]; exact dD_nat r r (Nat.le_refl _)
  have HD : Hid (allD D) := by rw [← hD]; exact dD_d r r (Nat.le_refl _)
  rw [hS] at hD1 HP
  rw [hD] at hD2 HP
  have t1 : True := trivial
  clear hS hD
  by_cases hv0 : v < 0
  · rw [if_pos hv0] at HP
    obtain ⟨SS, hSS⟩ : ∃ SS : List UInt8, 45 :: S = SS := ⟨_, rfl⟩
    have hcS : (ByteArray.mk #[45]) ++ (ByteArray.mk S.toArray) = ByteArray.mk SS.toArray := by rw [← hSS]; exact catB [45] S
    have hSSl : SS.length ≤ 21 := by rw [← hSS]; simpa using hSl
    replace HP : Hid (prt v = SS ++ if r = 0 then [] else 46 :: tr0 (pad6 D)) := by
      show _ = _
      rw [HP.out, ← hSS]
      rfl
    clear hSS
    have sSS : (ByteArray.mk SS.toArray).size = SS.length := sz_mk SS
    have sS : (ByteArray.mk S.toArray).size = S.length := sz_mk S
    have s45 : (ByteArray.mk #[45]).size = 1 := rfl
    have s46 : (ByteArray.mk #[46]).size = 1 := rfl
    have s48 : (ByteArray.mk #[48]).size = 1 := rfl
    by_cases hr0 : r = 0
    · have hrb : ((r : Int) == 0) = true := by rw [hr0]; rfl
      have HR : Hid (prt v = SS) := by
        show _ = _
        rw [HP.out, if_pos hr0]
        simp
      clear hr0
      go_enter Tryd.func9, Tryd.ntmps9
      go_wp2_with (first
        | (go_at_call 24; refine (hA _).mono ?_; rintro e w2 ⟨rfl, rfl⟩)
        | (go_at_call 25; clear t1; refine (hD1 _).mono ?_; rintro e w3 ⟨rfl, k3⟩; have K3 : Hid (Keep w w3) := k3; clear k3)
        | (go_at_call 25; refine (hD2 _).mono ?_; rintro e w4 ⟨rfl, k4⟩; have K4 : Hid (Keep w w4) := K3.out.trans k4; clear k4))
      go_ret
      exact ⟨by rw [HR.out]; rfl, K3.out⟩
    · have hrn : ¬ (r : Int) = 0 := by omega
      have hrb : ((r : Int) == 0) = false := by simpa using hrn
      have HR : Hid (prt v = SS ++ (46 :: tr0 (pad6 D))) := by
        show _ = _
        rw [HP.out, if_neg hr0]
      obtain ⟨PD, hPD⟩ : ∃ PD, pad6 D = PD := ⟨_, rfl⟩
      have hPl : PD.length = 6 := by rw [← hPD]; unfold pad6; simp; omega
      have HPN : Hid (tr0 PD ≠ []) := by
        intro e
        have h1 := (tr0_nil PD).1 e
        have h2 : nat D = 0 := by
          have hd : allD D := HD.out
          refine (tl0_nil hd).1 ?_
          unfold tl0
          rw [dw_nil]
          intro b hb
          have : b = 48 := h1 b (by rw [← hPD]; unfold pad6; exact List.mem_append_right _ hb)
          simp [this]
        rw [HN.out] at h2
        exact hr0 h2
      have HPD : Hid (pad6 D = PD) := hPD
      rw [hPD] at HR
      clear hr0 hPD
      go_enter Tryd.func9, Tryd.ntmps9
      go_wp2_with (first
        | (go_at_call 24; refine (hA _).mono ?_; rintro e w2 ⟨rfl, rfl⟩)
        | (go_at_call 25; clear t1; refine (hD1 _).mono ?_; rintro e w3 ⟨rfl, k3⟩; have K3 : Hid (Keep w w3) := k3; clear k3)
        | (go_at_call 25; refine (hD2 _).mono ?_; rintro e w4 ⟨rfl, k4⟩; have K4 : Hid (Keep w w4) := K3.out.trans k4; clear k4))
      go_loopg [6] (6 - D.length) (fun g v6 wx => ∃ (i : Nat) (u : List UInt8), i + g = 6 - D.length ∧ u = List.replicate i 48 ++ D ∧ v6 = .string ⟨u.toArray⟩ ∧ wx = w4)
      case atStart => exact ⟨0, D, by omega, rfl, rfl, rfl⟩
      case round =>
        obtain ⟨i, u, hig, hu, rfl, rfl⟩ := hrel
        have HU : Hid (u = List.replicate i 48 ++ D) := hu
        have hul : u.length = i + D.length := by rw [hu]; simp
        clear hu
        obtain ⟨U, hU⟩ : ∃ U, u.length = U := ⟨_, rfl⟩
        have su : (ByteArray.mk u.toArray).size = U := by rw [sz_mk]; exact hU
        rw [hU] at hul
        have hU6 : U ≤ 6 := by omega
        replace hU : Hid _ := hU
        replace hul : Hid _ := hul
        by_cases hi : i < 6 - D.length
        · have hcu : (ByteArray.mk #[48]) ++ (ByteArray.mk u.toArray) = ByteArray.mk (48 :: u).toArray := catB [48] u
          have hU5 : (U : Int) < 6 := by have := hul.out; omega
          go_wp2_with fail
          go_roundg (gk - 1)
          case measure => omega
          case rel => exact ⟨i + 1, 48 :: u, by omega, by rw [HU.out, List.replicate_succ]; rfl, rfl, rfl⟩
        · have hU7 : ¬ (U : Int) < 6 := by have := hul.out; omega
          have hup : u = PD := by rw [HU.out, ← HPD.out, show i = 6 - D.length by omega]; rfl
          replace hup : Hid _ := hup
          go_wp2_with fail
          go_loopg [6] (6) (fun g v6 wx => ∃ (t : List UInt8), t.length = g ∧ t.length ≤ 6 ∧ tr0 t = tr0 PD ∧ v6 = .string ⟨t.toArray⟩ ∧ wx = wr)
          case atStart => exact ⟨u, by rw [hup.out]; exact hPl, by rw [hup.out, hPl]; exact Nat.le_refl _, by rw [hup.out], rfl, rfl⟩
          case round =>
            obtain ⟨t, htl, htl6, htr, rfl, rfl⟩ := hrel
            have hne : t ≠ [] := by
              intro e
              rw [e] at htr
              exact HPN.out htr.symm
            obtain ⟨t', b, htb⟩ : ∃ t' b, t = t' ++ [b] := ⟨t.dropLast, t.getLast hne, (List.dropLast_concat_getLast hne).symm⟩
            obtain ⟨k, hk⟩ : ∃ k, t'.length = k := ⟨_, rfl⟩
            have htk : t.length = k + 1 := by rw [htb, List.length_append, hk]; rfl
            have hix := fun wx => run_ix t k (by omega) wx
            have hgb : t.getD k 0 = b := by rw [htb, ← hk]; simp [List.getD]
            rw [hgb] at hix
            have hupto := fun wx => run_upto t k (by omega) wx
            have htt : t.take k = t' := by rw [htb, ← hk]; simp
            rw [htt] at hupto
            obtain ⟨U2, hU2⟩ : ∃ U2, t.length = U2 := ⟨_, rfl⟩
            have st : (ByteArray.mk t.toArray).size = U2 := by rw [sz_mk]; exact hU2
            have hwk : IntKind.i64.wrap ((U2 : Int) - 1) = (k : Int) := by rw [IntWalk.i64_left, show (U2 : Int) - 1 = (k : Int) by omega]; exact IntWalk.wrap64_in _ (by omega)
            have hU26 : U2 ≤ 6 := by omega
            have HTR : Hid (tr0 t = tr0 PD) := htr
            have HTB : Hid (t = t' ++ [b]) := htb
            have HK : Hid (t'.length = k) := hk
            have HTL : Hid (t.length = gk) := htl
            have HTK : Hid (t.length = k + 1) := htk
            by_cases hb : b = 48
            · subst hb
              have hrel2 : Hid (tr0 t' = tr0 PD) := by show _ = _; rw [← HTR.out, HTB.out, tr0_zero]
              clear htr htb hk htl htk hgb htt hU2 hne
              go_wp2_with fail
              go_roundg (gk - 1)
              case measure => have := HTL.out; have := HTK.out; omega
              case rel => exact ⟨t', by have h1 := HTL.out; have h2 := HTK.out; have h3 := HK.out; omega, by have h2 := HTK.out; have h3 := HK.out; omega, hrel2.out, rfl, rfl⟩
            · have hbn : b.toNat ≠ 48 := fun e => hb (UInt8.toNat_inj.1 e)
              obtain ⟨bn, hbn2⟩ : ∃ bn, b.toNat = bn := ⟨_, rfl⟩
              rw [hbn2] at hix hbn
              have hbI : ¬ (bn : Int) = 48 := by omega
              have hbb : ((bn : Int) == 48) = false := by simpa using hbI
              have HF : Hid (prt v = SS ++ (46 :: t)) := by
                show _ = _
                rw [HR.out, ← HTR.out, HTB.out, tr0_other t' hb]
              clear htr htb hk htl htk hgb htt hU2 hne hbn2 hb
              go_wp2_with fail
              go_ret
              refine ⟨?_, K4.out⟩
              rw [HF.out]
              show Ending.returned (.string ((ByteArray.mk SS.toArray) ++ (ByteArray.mk #[46]) ++ (ByteArray.mk t.toArray))) = _
              rw [show (ByteArray.mk #[46]) = ByteArray.mk ([46] : List UInt8).toArray from rfl, catB, catB, List.append_assoc]
              rfl
  · rw [if_neg hv0] at HP
    obtain ⟨SS, hSS⟩ : ∃ SS : List UInt8, S = SS := ⟨_, rfl⟩
    have hSSl : SS.length ≤ 21 := by rw [← hSS]; omega
    replace HP : Hid (prt v = SS ++ if r = 0 then [] else 46 :: tr0 (pad6 D)) := by
      show _ = _
      rw [HP.out, ← hSS]
      rfl
    subst hSS
    have sS : (ByteArray.mk S.toArray).size = S.length := sz_mk S
    have s45 : (ByteArray.mk #[45]).size = 1 := rfl
    have s46 : (ByteArray.mk #[46]).size = 1 := rfl
    have s48 : (ByteArray.mk #[48]).size = 1 := rfl
    by_cases hr0 : r = 0
    · have hrb : ((r : Int) == 0) = true := by rw [hr0]; rfl
      have HR : Hid (prt v = S) := by
        show _ = _
        rw [HP.out, if_pos hr0]
        simp
      clear hr0
      go_enter Tryd.func9, Tryd.ntmps9
      go_wp2_with (first
        | (go_at_call 24; refine (hA _).mono ?_; rintro e w2 ⟨rfl, rfl⟩)
        | (go_at_call 25; clear t1; refine (hD1 _).mono ?_; rintro e w3 ⟨rfl, k3⟩; have K3 : Hid (Keep w w3) := k3; clear k3)
        | (go_at_call 25; refine (hD2 _).mono ?_; rintro e w4 ⟨rfl, k4⟩; have K4 : Hid (Keep w w4) := K3.out.trans k4; clear k4))
      go_ret
      exact ⟨by rw [HR.out]; rfl, K3.out⟩
    · have hrn : ¬ (r : Int) = 0 := by omega
      have hrb : ((r : Int) == 0) = false := by simpa using hrn
      have HR : Hid (prt v = S ++ (46 :: tr0 (pad6 D))) := by
        show _ = _
        rw [HP.out, if_neg hr0]
      obtain ⟨PD, hPD⟩ : ∃ PD, pad6 D = PD := ⟨_, rfl⟩
      have hPl : PD.length = 6 := by rw [← hPD]; unfold pad6; simp; omega
      have HPN : Hid (tr0 PD ≠ []) := by
        intro e
        have h1 := (tr0_nil PD).1 e
        have h2 : nat D = 0 := by
          have hd : allD D := HD.out
          refine (tl0_nil hd).1 ?_
          unfold tl0
          rw [dw_nil]
          intro b hb
          have : b = 48 := h1 b (by rw [← hPD]; unfold pad6; exact List.mem_append_right _ hb)
          simp [this]
        rw [HN.out] at h2
        exact hr0 h2
      have HPD : Hid (pad6 D = PD) := hPD
      rw [hPD] at HR
      clear hr0 hPD
      go_enter Tryd.func9, Tryd.ntmps9
      go_wp2_with (first
        | (go_at_call 24; refine (hA _).mono ?_; rintro e w2 ⟨rfl, rfl⟩)
        | (go_at_call 25; clear t1; refine (hD1 _).mono ?_; rintro e w3 ⟨rfl, k3⟩; have K3 : Hid (Keep w w3) := k3; clear k3)
        | (go_at_call 25; refine (hD2 _).mono ?_; rintro e w4 ⟨rfl, k4⟩; have K4 : Hid (Keep w w4) := K3.out.trans k4; clear k4))
      go_loopg [6] (6 - D.length) (fun g v6 wx => ∃ (i : Nat) (u : List UInt8), i + g = 6 - D.length ∧ u = List.replicate i 48 ++ D ∧ v6 = .string ⟨u.toArray⟩ ∧ wx = w4)
      case atStart => exact ⟨0, D, by omega, rfl, rfl, rfl⟩
      case round =>
        obtain ⟨i, u, hig, hu, rfl, rfl⟩ := hrel
        have HU : Hid (u = List.replicate i 48 ++ D) := hu
        have hul : u.length = i + D.length := by rw [hu]; simp
        clear hu
        obtain ⟨U, hU⟩ : ∃ U, u.length = U := ⟨_, rfl⟩
        have su : (ByteArray.mk u.toArray).size = U := by rw [sz_mk]; exact hU
        rw [hU] at hul
        have hU6 : U ≤ 6 := by omega
        replace hU : Hid _ := hU
        replace hul : Hid _ := hul
        by_cases hi : i < 6 - D.length
        · have hcu : (ByteArray.mk #[48]) ++ (ByteArray.mk u.toArray) = ByteArray.mk (48 :: u).toArray := catB [48] u
          have hU5 : (U : Int) < 6 := by have := hul.out; omega
          go_wp2_with fail
          go_roundg (gk - 1)
          case measure => omega
          case rel => exact ⟨i + 1, 48 :: u, by omega, by rw [HU.out, List.replicate_succ]; rfl, rfl, rfl⟩
        · have hU7 : ¬ (U : Int) < 6 := by have := hul.out; omega
          have hup : u = PD := by rw [HU.out, ← HPD.out, show i = 6 - D.length by omega]; rfl
          replace hup : Hid _ := hup
          go_wp2_with fail
          go_loopg [6] (6) (fun g v6 wx => ∃ (t : List UInt8), t.length = g ∧ t.length ≤ 6 ∧ tr0 t = tr0 PD ∧ v6 = .string ⟨t.toArray⟩ ∧ wx = wr)
          case atStart => exact ⟨u, by rw [hup.out]; exact hPl, by rw [hup.out, hPl]; exact Nat.le_refl _, by rw [hup.out], rfl, rfl⟩
          case round =>
            obtain ⟨t, htl, htl6, htr, rfl, rfl⟩ := hrel
            have hne : t ≠ [] := by
              intro e
              rw [e] at htr
              exact HPN.out htr.symm
            obtain ⟨t', b, htb⟩ : ∃ t' b, t = t' ++ [b] := ⟨t.dropLast, t.getLast hne, (List.dropLast_concat_getLast hne).symm⟩
            obtain ⟨k, hk⟩ : ∃ k, t'.length = k := ⟨_, rfl⟩
            have htk : t.length = k + 1 := by rw [htb, List.length_append, hk]; rfl
            have hix := fun wx => run_ix t k (by omega) wx
            have hgb : t.getD k 0 = b := by rw [htb, ← hk]; simp [List.getD]
            rw [hgb] at hix
            have hupto := fun wx => run_upto t k (by omega) wx
            have htt : t.take k = t' := by rw [htb, ← hk]; simp
            rw [htt] at hupto
            obtain ⟨U2, hU2⟩ : ∃ U2, t.length = U2 := ⟨_, rfl⟩
            have st : (ByteArray.mk t.toArray).size = U2 := by rw [sz_mk]; exact hU2
            have hwk : IntKind.i64.wrap ((U2 : Int) - 1) = (k : Int) := by rw [IntWalk.i64_left, show (U2 : Int) - 1 = (k : Int) by omega]; exact IntWalk.wrap64_in _ (by omega)
            have hU26 : U2 ≤ 6 := by omega
            have HTR : Hid (tr0 t = tr0 PD) := htr
            have HTB : Hid (t = t' ++ [b]) := htb
            have HK : Hid (t'.length = k) := hk
            have HTL : Hid (t.length = gk) := htl
            have HTK : Hid (t.length = k + 1) := htk
            by_cases hb : b = 48
            · subst hb
              have hrel2 : Hid (tr0 t' = tr0 PD) := by show _ = _; rw [← HTR.out, HTB.out, tr0_zero]
              clear htr htb hk htl htk hgb htt hU2 hne
              go_wp2_with fail
              go_roundg (gk - 1)
              case measure => have := HTL.out; have := HTK.out; omega
              case rel => exact ⟨t', by have h1 := HTL.out; have h2 := HTK.out; have h3 := HK.out; omega, by have h2 := HTK.out; have h3 := HK.out; omega, hrel2.out, rfl, rfl⟩
            · have hbn : b.toNat ≠ 48 := fun e => hb (UInt8.toNat_inj.1 e)
              obtain ⟨bn, hbn2⟩ : ∃ bn, b.toNat = bn := ⟨_, rfl⟩
              rw [hbn2] at hix hbn
              have hbI : ¬ (bn : Int) = 48 := by omega
              have hbb : ((bn : Int) == 48) = false := by simpa using hbI
              have HF : Hid (prt v = S ++ (46 :: t)) := by
                show _ = _
                rw [HR.out, ← HTR.out, HTB.out, tr0_other t' hb]
              clear htr htb hk htl htk hgb htt hU2 hne hbn2 hb
              go_wp2_with fail
              go_ret
              refine ⟨?_, K4.out⟩
              rw [HF.out]
              show Ending.returned (.string ((ByteArray.mk S.toArray) ++ (ByteArray.mk #[46]) ++ (ByteArray.mk t.toArray))) = _
              rw [show (ByteArray.mk #[46]) = ByteArray.mk ([46] : List UInt8).toArray from rfl, catB, catB, List.append_assoc]
              rfl
end Go.Proofs.YtgciimjcdhallaaDoor
