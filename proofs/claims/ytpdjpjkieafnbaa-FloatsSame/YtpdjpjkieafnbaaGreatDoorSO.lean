import Derived.Test.YtpdjpjkieafnbaaGreatDoorS5
import Derived.Test.YtpdjpjkieafnbaaGreatDoorH5
import Derived.Test.YtpdjpjkieafnbaaGreatDoorOO
set_option linter.unusedVariables false
set_option linter.unusedSimpArgs false
namespace Go.Proofs.YtpdjpjkieafnbaaGreatDoor.Li
open Go.RowKit Lb Nr
def zs (i : Nat) : List UInt8 := List.replicate i 48
def dz (D : List UInt8) (i : Nat) : List UInt8 := D ++ zs i
theorem zs_len (i : Nat) : (zs i).length = i := List.length_replicate
theorem rep_snoc (i : Nat) : ByteArray.mk (zs i).toArray ++ ByteArray.mk #[48] = ⟨(zs (i + 1)).toArray⟩ := by
  unfold zs
  rw [cat_one, ← List.replicate_succ']
theorem app_snoc (D : List UInt8) (i : Nat) : ByteArray.mk (dz D i).toArray ++ ByteArray.mk #[48] = ⟨(dz D (i + 1)).toArray⟩ := by
  unfold dz zs
  rw [cat_one, List.append_assoc, ← List.replicate_succ']
theorem dz_zero (D : List UInt8) : dz D 0 = D := List.append_nil D
theorem dz_len (D : List UInt8) (i : Nat) : (dz D i).length = D.length + i := by unfold dz; rw [List.length_append, zs_len]
set_option maxRecDepth 100000 in
set_option maxHeartbeats 4000000 in
theorem law_same (a : Option Addr) (c : Nat) (l : List UInt8) (p : Int) (n z : Nat) (w : World) (hp1 : -9223372036854775808 ≤ p) (hp2 : p ≤ 9223372036854775807) (hn : n ≤ 255) (hz : z ≤ 255) (hl : l.length ≤ 3496) (hr : Rd5 w a l) :
    Calls Tryz.prog 7 #[.slice a l.length c, .int .i64 p, .int .u8 (n : Int), .int .u8 (z : Int)] w fun e w' => e = .returned (.bool true) ∧ Keep w w' := by
  have hB := fun wx => begins_any wx
  have hr1 := fun wx => rd1 l p hl wx
  have hpl := fun wx (h : Rd5 wx a l) => plain_any a c l p wx (by omega) h
  have HTl : Hid ((plT l p).length ≤ 3497) := plT_len p hl
  have hll : ¬ (3496 : Int) < (l.length : Int) := by omega
  have Hl : Hid (l.length ≤ 3496) := hl
  have Hp : Hid (-9223372036854775808 ≤ p ∧ p ≤ 9223372036854775807) := ⟨hp1, hp2⟩
  clear hl hp1 hp2
  obtain ⟨T, hT⟩ : ∃ T, plT l p = T := ⟨_, rfl⟩
  rw [hT] at hr1 hpl HTl
  replace hT : Hid (plT l p = T) := hT
  go_enter Tryz.func7, Tryz.ntmps7
  go_wp2_with fail
  refine (hB _).mono ?_
  rintro e w1 ⟨rfl, k1⟩
  go_wp2_with fail
  refine (hpl _ (hr.keep k1)).mono ?_
  rintro e w2 ⟨rfl, k2⟩
  go_wp2_with fail
  refine (hr1 _).mono ?_
  rintro e w3 ⟨x, rfl, hx, k3⟩
  replace hx : Hid (NB (nat (tD l)) (10 ^ tK l p) x) := hx
  have k03 := (k1.trans k2).trans k3
  clear hr1 hpl k1 k2 k3
  go_wp2_with fail
  go_loopg [14, 15] (z) (fun g v14 v15 wr => ∃ i : Nat, i + g = z ∧ v14 = .string ⟨(zs i).toArray⟩ ∧ v15 = .int .i64 (i : Int) ∧ wr = w3)
  case atStart => exact ⟨0, by omega, rfl, rfl, rfl⟩
  case round =>
    obtain ⟨i, hig, rfl, rfl, rfl⟩ := hrel
    by_cases hi : i < z
    · have hlt : (i : Int) < (z : Int) := by omega
      have hcat := rep_snoc i
      have hsz : (ByteArray.mk (zs i).toArray).size = i := by rw [sz_mk, zs_len]
      go_wp2_with fail
      go_roundg (gk - 1)
      case measure => omega
      case rel => exact ⟨i + 1, by omega, rfl, rfl, rfl⟩
    · have hlt : ¬ (i : Int) < (z : Int) := by omega
      obtain rfl : i = z := by omega
      have hr2 := fun wx => rd2 l p i Hl.out hz wx
      have hr3 := fun wx => rd3 l p i Hl.out hz wx
      rw [hT.out] at hr2 hr3
      obtain ⟨O, hO⟩ : ∃ O, zs i = O := ⟨_, rfl⟩
      have hOl : O.length = i := by rw [← hO, zs_len]
      have hO2 : List.replicate i (48 : UInt8) = O := hO
      rw [hO2] at hr2 hr3
      rw [hO]
      clear hO2
      clear hO
      have hsO : (ByteArray.mk O.toArray).size = i := by rw [sz_mk, hOl]
      have hsT : (ByteArray.mk T.toArray).size = T.length := sz_mk T
      have hTl := HTl.out
      have hcat := catB O T
      go_wp2_with fail
      refine (hr2 _).mono ?_
      rintro e w4 ⟨x2, rfl, hx2, k4⟩
      obtain rfl : x2 = x := NB.one (ten_pos _) hx2 hx.out
      clear hr2 hcat hx2
      have hpl0 := fun wx (h : Rd5 wx a l) => plain_any a c l 0 wx (by have := Hl.out; omega) h
      rw [plT_zero] at hpl0
      have hr4 := fun E h1 h2 h3 h4 wx => rd4 l p n E Hl.out hn h1 h2 h3 h4 wx
      have hsg := fun wx => signT_any (-((tK l p + n : Nat) : Int)) wx (by have := tK_lt l p; have := tD_le Hl.out; omega) (by omega)
      have hDl : (tD l).length ≤ 3496 := tD_le Hl.out
      have hkl : tK l p ≤ 3496 := by have := tK_lt l p; omega
      have hcase : ∃ U : List UInt8, (if tK l p = 0 then T ++ [46] else T) = U ∧ U.length ≤ 3498 ∧ ((1 ≤ p ∧ p < (l.length : Int) ∧ U = T ∧ (l.length : Int) - p = (tK l p : Int)) ∨ (p < 1 ∧ ByteArray.mk T.toArray ++ ByteArray.mk #[46] = ⟨U.toArray⟩ ∧ tK l p = 0) ∨ (1 ≤ p ∧ (l.length : Int) ≤ p ∧ ByteArray.mk T.toArray ++ ByteArray.mk #[46] = ⟨U.toArray⟩ ∧ tK l p = 0)) := by
        by_cases hin : 0 < p ∧ p < (l.length : Int)
        · have hk : tK l p = l.length - p.toNat := by unfold tK; rw [if_pos hin]
          refine ⟨T, by rw [if_neg (by omega)], by omega, .inl ⟨by omega, hin.2, rfl, by omega⟩⟩
        · have hk : tK l p = 0 := by unfold tK; rw [if_neg hin]
          refine ⟨T ++ [46], by rw [if_pos hk], by simp; omega, ?_⟩
          by_cases h1 : p < 1
          · exact .inr (.inl ⟨h1, cat_one T 46, hk⟩)
          · exact .inr (.inr ⟨by omega, by omega, cat_one T 46, hk⟩)
      obtain ⟨U, hU, hUl, hcase⟩ := hcase
      rw [hU] at hr3
      clear hU
      have k04 := k03.trans k4
      clear k03 k4
      have hone : Hid (∀ y, NB (nat (tD l)) (10 ^ tK l p) y → y = x2) := fun y hy => NB.one (ten_pos _) hy hx.out
      clear hx
      obtain ⟨D, hD⟩ : ∃ D, tD l = D := ⟨_, rfl⟩
      obtain ⟨k, hk⟩ : ∃ k, tK l p = k := ⟨_, rfl⟩
      rw [hD] at hpl0 hDl
      rw [hk] at hkl hcase
      have hr4' : ∀ E, allD E → E ≠ [] → nat E = k + n → E.length ≤ 19 → ∀ wx, Calls Tryz.prog 12 #[.string ⟨(((D ++ List.replicate n 48) ++ [101]) ++ ((if -((k + n : Nat) : Int) < 0 then [45] else []) ++ E)).toArray⟩] wx (RdS l p wx) := by
        rw [← hD, ← hk]
        exact hr4
      have hsg' := hsg
      rw [hk] at hsg'
      clear hr4 hsg hD hk
      have hcU := cat_one U 48
      have hcO := catB (U ++ [48]) O
      have hsU : (ByteArray.mk U.toArray).size = U.length := sz_mk U
      have hsU1 : (ByteArray.mk (U ++ [48]).toArray).size = U.length + 1 := by rw [sz_mk]; simp
      obtain ⟨U1, hU1⟩ : ∃ U1, U ++ [48] = U1 := ⟨_, rfl⟩
      rw [hU1] at hcU hcO hsU1 hr3
      obtain ⟨U2, hU2⟩ : ∃ U2, U1 ++ O = U2 := ⟨_, rfl⟩
      rw [hU2] at hcO hr3
      clear hU1 hU2
      have h34 := fun wx => f64bits x2 wx
      have Hn : Hid (n ≤ 255) := hn
      rcases hcase with ⟨c1, c2, c3, c4⟩ | ⟨c1, c2, c3⟩ | ⟨c1, c2, c3, c4⟩
      · subst c3
        have d1 : ¬ p < 1 := by omega
        have d2 : ¬ (l.length : Int) ≤ p := by omega
        go_wp2_with fail
        refine (hr3 _).mono ?_
        rintro e w5 ⟨x3, rfl, hx3, k5⟩
        obtain rfl : x3 = x2 := hone.out _ hx3
        clear hx3 hr3
        go_wp2_with fail
        refine (hpl0 _ (hr.keep (k04.trans k5))).mono ?_
        rintro e w6 ⟨rfl, k6⟩
        have k06 := (k04.trans k5).trans k6
        clear hpl0 k04 k5 k6
        go_wp2_with fail
        go_loopg [23, 25] (n) (fun g v23 v25 wr => ∃ j : Nat, j + g = n ∧ v23 = .string ⟨(dz D j).toArray⟩ ∧ v25 = .int .i64 (j : Int) ∧ wr = w6)
        case atStart => exact ⟨0, by omega, by rw [dz_zero], rfl, rfl⟩
        case round =>
          obtain ⟨j, hjg, rfl, rfl, rfl⟩ := hrel
          by_cases hj : j < n
          · have hjl : (j : Int) < (n : Int) := by omega
            have hcat := app_snoc D j
            have hsz : (ByteArray.mk (dz D j).toArray).size = D.length + j := by rw [sz_mk, dz_len]
            go_wp2_with fail
            go_roundg (gk - 1)
            case measure => omega
            case rel => exact ⟨j + 1, by omega, rfl, rfl, rfl⟩
          · have hjl : ¬ (j : Int) < (n : Int) := by omega
            obtain rfl : j = n := by omega
            have hr5 : ∀ E, allD E → E ≠ [] → nat E = k + j → E.length ≤ 19 → ∀ wx, Calls Tryz.prog 12 #[.string ⟨((dz D j ++ [101]) ++ ((if -((k + j : Nat) : Int) < 0 then [45] else []) ++ E)).toArray⟩] wx (RdS l p wx) := hr4'
            have hZl : (dz D j).length = D.length + j := dz_len D j
            obtain ⟨Z, hZ⟩ : ∃ Z, dz D j = Z := ⟨_, rfl⟩
            rw [hZ] at hr5 hZl
            rw [hZ]
            clear hr4' hZ
            have hsZ : (ByteArray.mk Z.toArray).size = D.length + j := by rw [sz_mk, hZl]
            have hcZ := cat_one Z 101
            have hsZ1 : (ByteArray.mk (Z ++ [101]).toArray).size = D.length + j + 1 := by rw [sz_mk]; simp; omega
            obtain ⟨Z1, hZ1⟩ : ∃ Z1, Z ++ [101] = Z1 := ⟨_, rfl⟩
            rw [hZ1] at hcZ hsZ1 hr5
            clear hZ1
            go_wp2_with fail
            rw [show (-(k : Int) - (j : Int)) = -((k + j : Nat) : Int) from by omega]
            refine (hsg' _).mono ?_
            rintro e w7 ⟨E, rfl, e1, e2, e3, e4, k7⟩
            have hr6 := hr5 E e1 e2 (by rw [e3]; omega) e4
            have hSl : ((if -((k + j : Nat) : Int) < 0 then [45] else []) ++ E).length ≤ 20 := by rw [List.length_append]; split <;> simp <;> omega
            obtain ⟨S, hS⟩ : ∃ S, (if -((k + j : Nat) : Int) < 0 then [45] else []) ++ E = S := ⟨_, rfl⟩
            rw [hS] at hr6 hSl
            rw [hS]
            clear hr5 hS e1 e2 e3 e4 hsg'
            have hsS : (ByteArray.mk S.toArray).size = S.length := sz_mk S
            have hcS := catB Z1 S
            go_wp2_with fail
            refine (hr6 _).mono ?_
            rintro e w8 ⟨x4, rfl, hx4, k8⟩
            obtain rfl : x4 = x3 := hone.out _ hx4
            clear hx4 hr6
            go_wp2_with fail
            go_ret
            exact ⟨rfl, (k06.trans k7).trans k8⟩
      · subst c3
        have d1 : ¬ 1 ≤ p := by omega
        go_wp2_with fail
        refine (hr3 _).mono ?_
        rintro e w5 ⟨x3, rfl, hx3, k5⟩
        obtain rfl : x3 = x2 := hone.out _ hx3
        clear hx3 hr3
        go_wp2_with fail
        refine (hpl0 _ (hr.keep (k04.trans k5))).mono ?_
        rintro e w6 ⟨rfl, k6⟩
        have k06 := (k04.trans k5).trans k6
        clear hpl0 k04 k5 k6
        go_wp2_with fail
        go_loopg [23, 25] (n) (fun g v23 v25 wr => ∃ j : Nat, j + g = n ∧ v23 = .string ⟨(dz D j).toArray⟩ ∧ v25 = .int .i64 (j : Int) ∧ wr = w6)
        case atStart => exact ⟨0, by omega, by rw [dz_zero], rfl, rfl⟩
        case round =>
          obtain ⟨j, hjg, rfl, rfl, rfl⟩ := hrel
          by_cases hj : j < n
          · have hjl : (j : Int) < (n : Int) := by omega
            have hcat := app_snoc D j
            have hsz : (ByteArray.mk (dz D j).toArray).size = D.length + j := by rw [sz_mk, dz_len]
            go_wp2_with fail
            go_roundg (gk - 1)
            case measure => omega
            case rel => exact ⟨j + 1, by omega, rfl, rfl, rfl⟩
          · have hjl : ¬ (j : Int) < (n : Int) := by omega
            obtain rfl : j = n := by omega
            have hr5 : ∀ E, allD E → E ≠ [] → nat E = 0 + j → E.length ≤ 19 → ∀ wx, Calls Tryz.prog 12 #[.string ⟨((dz D j ++ [101]) ++ ((if -((0 + j : Nat) : Int) < 0 then [45] else []) ++ E)).toArray⟩] wx (RdS l p wx) := hr4'
            have hZl : (dz D j).length = D.length + j := dz_len D j
            obtain ⟨Z, hZ⟩ : ∃ Z, dz D j = Z := ⟨_, rfl⟩
            rw [hZ] at hr5 hZl
            rw [hZ]
            clear hr4' hZ
            have hsZ : (ByteArray.mk Z.toArray).size = D.length + j := by rw [sz_mk, hZl]
            have hcZ := cat_one Z 101
            have hsZ1 : (ByteArray.mk (Z ++ [101]).toArray).size = D.length + j + 1 := by rw [sz_mk]; simp; omega
            obtain ⟨Z1, hZ1⟩ : ∃ Z1, Z ++ [101] = Z1 := ⟨_, rfl⟩
            rw [hZ1] at hcZ hsZ1 hr5
            clear hZ1
            go_wp2_with fail
            rw [show (-(j : Int)) = -((0 + j : Nat) : Int) from by omega]
            refine (hsg' _).mono ?_
            rintro e w7 ⟨E, rfl, e1, e2, e3, e4, k7⟩
            have hr6 := hr5 E e1 e2 (by rw [e3]; omega) e4
            have hSl : ((if -((0 + j : Nat) : Int) < 0 then [45] else []) ++ E).length ≤ 20 := by rw [List.length_append]; split <;> simp <;> omega
            obtain ⟨S, hS⟩ : ∃ S, (if -((0 + j : Nat) : Int) < 0 then [45] else []) ++ E = S := ⟨_, rfl⟩
            rw [hS] at hr6 hSl
            rw [hS]
            clear hr5 hS e1 e2 e3 e4 hsg'
            have hsS : (ByteArray.mk S.toArray).size = S.length := sz_mk S
            have hcS := catB Z1 S
            go_wp2_with fail
            refine (hr6 _).mono ?_
            rintro e w8 ⟨x4, rfl, hx4, k8⟩
            obtain rfl : x4 = x3 := hone.out _ hx4
            clear hx4 hr6
            go_wp2_with fail
            go_ret
            exact ⟨rfl, (k06.trans k7).trans k8⟩
      · subst c4
        have d1 : ¬ p < 1 := by omega
        have d2 : ¬ p < (l.length : Int) := by omega
        go_wp2_with fail
        refine (hr3 _).mono ?_
        rintro e w5 ⟨x3, rfl, hx3, k5⟩
        obtain rfl : x3 = x2 := hone.out _ hx3
        clear hx3 hr3
        go_wp2_with fail
        refine (hpl0 _ (hr.keep (k04.trans k5))).mono ?_
        rintro e w6 ⟨rfl, k6⟩
        have k06 := (k04.trans k5).trans k6
        clear hpl0 k04 k5 k6
        go_wp2_with fail
        go_loopg [23, 25] (n) (fun g v23 v25 wr => ∃ j : Nat, j + g = n ∧ v23 = .string ⟨(dz D j).toArray⟩ ∧ v25 = .int .i64 (j : Int) ∧ wr = w6)
        case atStart => exact ⟨0, by omega, by rw [dz_zero], rfl, rfl⟩
        case round =>
          obtain ⟨j, hjg, rfl, rfl, rfl⟩ := hrel
          by_cases hj : j < n
          · have hjl : (j : Int) < (n : Int) := by omega
            have hcat := app_snoc D j
            have hsz : (ByteArray.mk (dz D j).toArray).size = D.length + j := by rw [sz_mk, dz_len]
            go_wp2_with fail
            go_roundg (gk - 1)
            case measure => omega
            case rel => exact ⟨j + 1, by omega, rfl, rfl, rfl⟩
          · have hjl : ¬ (j : Int) < (n : Int) := by omega
            obtain rfl : j = n := by omega
            have hr5 : ∀ E, allD E → E ≠ [] → nat E = 0 + j → E.length ≤ 19 → ∀ wx, Calls Tryz.prog 12 #[.string ⟨((dz D j ++ [101]) ++ ((if -((0 + j : Nat) : Int) < 0 then [45] else []) ++ E)).toArray⟩] wx (RdS l p wx) := hr4'
            have hZl : (dz D j).length = D.length + j := dz_len D j
            obtain ⟨Z, hZ⟩ : ∃ Z, dz D j = Z := ⟨_, rfl⟩
            rw [hZ] at hr5 hZl
            rw [hZ]
            clear hr4' hZ
            have hsZ : (ByteArray.mk Z.toArray).size = D.length + j := by rw [sz_mk, hZl]
            have hcZ := cat_one Z 101
            have hsZ1 : (ByteArray.mk (Z ++ [101]).toArray).size = D.length + j + 1 := by rw [sz_mk]; simp; omega
            obtain ⟨Z1, hZ1⟩ : ∃ Z1, Z ++ [101] = Z1 := ⟨_, rfl⟩
            rw [hZ1] at hcZ hsZ1 hr5
            clear hZ1
            go_wp2_with fail
            rw [show (-(j : Int)) = -((0 + j : Nat) : Int) from by omega]
            refine (hsg' _).mono ?_
            rintro e w7 ⟨E, rfl, e1, e2, e3, e4, k7⟩
            have hr6 := hr5 E e1 e2 (by rw [e3]; omega) e4
            have hSl : ((if -((0 + j : Nat) : Int) < 0 then [45] else []) ++ E).length ≤ 20 := by rw [List.length_append]; split <;> simp <;> omega
            obtain ⟨S, hS⟩ : ∃ S, (if -((0 + j : Nat) : Int) < 0 then [45] else []) ++ E = S := ⟨_, rfl⟩
            rw [hS] at hr6 hSl
            rw [hS]
            clear hr5 hS e1 e2 e3 e4 hsg'
            have hsS : (ByteArray.mk S.toArray).size = S.length := sz_mk S
            have hcS := catB Z1 S
            go_wp2_with fail
            refine (hr6 _).mono ?_
            rintro e w8 ⟨x4, rfl, hx4, k8⟩
            obtain rfl : x4 = x3 := hone.out _ hx4
            clear hx4 hr6
            go_wp2_with fail
            go_ret
            exact ⟨rfl, (k06.trans k7).trans k8⟩
end Go.Proofs.YtpdjpjkieafnbaaGreatDoor.Li
set_option linter.unusedVariables false
set_option linter.unusedSimpArgs false
namespace Go.Proofs.YtpdjpjkieafnbaaGreatDoor.Li
open Go.RowKit Lb Nr
set_option maxRecDepth 100000 in
set_option maxHeartbeats 1000000 in
theorem law_same_long (a : Option Addr) (c m : Nat) (p : Int) (n z : Nat) (w : World) (hn : n ≤ 255) (hz : z ≤ 255) (hl : 3496 < m) :
    Calls Tryz.prog 7 #[.slice a m c, .int .i64 p, .int .u8 (n : Int), .int .u8 (z : Int)] w fun e w' => e = .returned (.bool true) ∧ Keep w w' := by
  have hB := fun wx => begins_any wx
  have hll : (3496 : Int) < (m : Int) := by omega
  have d1 : decide ((3496 : Int) < (m : Int)) = true := decide_eq_true hll
  have d2 : decide (3496 < m) = true := decide_eq_true hl
  go_enter Tryz.func7, Tryz.ntmps7
  go_wp2_with fail
  refine (hB _).mono ?_
  rintro e w1 ⟨rfl, k1⟩
  go_wp2_with fail
  refine (hB _).mono ?_
  rintro e w2 ⟨rfl, k2⟩
  go_wp2_with fail
  go_ret
  exact ⟨rfl, k1.trans k2⟩
end Go.Proofs.YtpdjpjkieafnbaaGreatDoor.Li
set_option linter.unusedVariables false
set_option linter.unusedSimpArgs false
namespace Go.Proofs.YtpdjpjkieafnbaaGreatDoor
open Go.ChangeShapes Go.WideShapes Go.ChangeAt Go.RowKit
theorem cells5 : Tryz.prog.cellsOf 5 = 1 := by kernel_rfl
theorem u8_of {n : Int} (h : (Lit.int .u8 n).wf = true) : ∃ m : Nat, n = (m : Int) ∧ m ≤ 255 := by
  simp only [Lit.wf, IntKind.min, IntKind.max, IntKind.signed, IntKind.bits, Bool.and_eq_true, decide_eq_true_eq] at h
  simp at h
  exact ⟨n.toNat, by omega, by omega⟩
theorem i64_of {n : Int} (h : (Lit.int .i64 n).wf = true) : -9223372036854775808 ≤ n ∧ n ≤ 9223372036854775807 := by
  simp only [Lit.wf, IntKind.min, IntKind.max, IntKind.signed, IntKind.bits, Bool.and_eq_true, decide_eq_true_eq] at h
  simp at h
  omega
set_option maxRecDepth 100000 in
/-- An argument of bytes, opened. -/
theorem open_bytes {H : Type} {enc : TypeId × Value → H} {W : World} {base : Nat} {v : Value} {d : DataW H} {p : List MemPlace} (hv : Value.okWide Tryz.prog W .any base 61 v) (h : DataW.Trod enc Tryz.prog W 0 (fun _ => true) true 61 v d p) :
    ∃ a c l, v = .slice a l.length c ∧ Li.Rd5 W a l := by
  obtain ⟨a, len, cap, rfl⟩ := okWide_slice Tryz.underlying61 hv
  obtain ⟨fuel, hf⟩ := h
  rcases open_ints Tryz.underlying61 Tryz.underlying5 cells5 hf with ⟨hcs, _⟩ | ⟨x, l, c, zs, hcs, _, hl, hm, hz, hx, hcell, hwz⟩
  · simp [Value.cells] at hcs
    obtain ⟨rfl, rfl, rfl⟩ := hcs
    exact ⟨none, 0, [], rfl, by intro j hj; simp at hj⟩
  · simp [Value.cells] at hcs
    obtain ⟨rfl, rfl, rfl⟩ := hcs
    simp only [Prod.mk.injEq] at hx
    simp only [if_true] at hz
    have hlen : ((zs.take len).map (fun z : Int => UInt8.ofNat z.toNat)).length = len := by simp; omega
    refine ⟨some x, cap, (zs.take len).map (fun z : Int => UInt8.ofNat z.toNat), by rw [hlen], ?_⟩
    intro j hj
    rw [hlen] at hj
    obtain ⟨b, off, rfl, hc⟩ := ints_at hcell (by omega)
    refine ⟨b, off, rfl, ?_⟩
    rw [hc j (by omega)]
    have hjl : j < zs.length := by omega
    obtain ⟨m, hm1, hm2⟩ := u8_of (hwz zs[j] (List.getElem_mem hjl))
    have e : ((zs.take len).map (fun z : Int => UInt8.ofNat z.toNat)).getD j 0 = UInt8.ofNat m := by
      simp [List.getD, hj, hjl, hm1]
    have e2 : (UInt8.ofNat m).toNat = m := by
      rw [UInt8.toNat_ofNat']
      exact Nat.mod_eq_of_lt (by omega)
    rw [e, e2]
    simp [List.getD, hjl, hm1]
end Go.Proofs.YtpdjpjkieafnbaaGreatDoor
