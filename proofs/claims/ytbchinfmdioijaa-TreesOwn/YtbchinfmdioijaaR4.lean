import Derived.Test.YtbchinfmdioijaaV1
import Derived.Test.YtbchinfmdioijaaR3
import Derived.Test.YtbchinfmdioijaaW7
set_option linter.unusedVariables false
set_option linter.unusedSimpArgs false
namespace Go.Proofs.Ytbchinfmdioijaa
open Go.RowKit
theorem gsS_nan (n : Nd) (x : Nat) (hx : nanB x = true) (h : n.kd = 2 ∨ n.kd = 3) : gsS n x = n.ms := by
  unfold gsS
  by_cases h2 : n.kd = 2
  · rw [if_pos h2]; unfold sdS; rw [hx]; rfl
  · rw [if_neg h2, if_pos (by omega)]
    unfold amS
    rw [inB_no fun i hi => eq_nan _ _ hx]
    unfold sdS; rw [hx]; rfl
theorem gsS_number (n : Nd) (x : Nat) (hx : nanB x = false) (h : n.kd = 2) : gsS n x = if leB x n.th then 1 else 2 := by
  unfold gsS sdS; rw [if_pos h, hx]; rfl
theorem gsS_cats (n : Nd) (x : Nat) (hx : nanB x = false) (h : n.kd = 3) : gsS n x = if inB n.cs x then 1 else 2 := by
  unfold gsS amS sdS; rw [if_neg (by omega), if_pos h, hx]; rfl
theorem gsS_none (n : Nd) (x : Nat) (h2 : n.kd ≠ 2) (h3 : n.kd ≠ 3) : gsS n x = 0 := by
  unfold gsS; rw [if_neg h2, if_neg h3]
set_option maxRecDepth 100000 in
set_option maxHeartbeats 1600000 in
theorem rGoes_none (n : Nd) (ca : Option Addr) (cap x : Nat) (w : World) (h2 : n.kd ≠ 2) (h3 : n.kd ≠ 3) :
    Calls Try.prog 23 #[n.v ca cap, .float .f64 x] w fun e w' => e = .returned (.int .u8 0) ∧ Keep w w' := by
  have k0 : Keep w (w.alloc (Obj.cells #[Value.int IntKind.u8 n.kd, Value.int IntKind.i64 n.vl, Value.int IntKind.i64 n.ft, Value.float FloatKind.f64 n.th, Value.slice ca n.cs.length cap, Value.int IntKind.u8 n.ms, Value.int IntKind.i64 n.lf, Value.int IntKind.i64 n.rt] 40)) := (Keep.refl w).alloc _
  have e2 : ((n.kd : Int) == 2) = false := by simp; omega
  have f2 : ((n.kd : Int) != 2) = true := by simp; omega
  have e3 : ((n.kd : Int) == 3) = false := by simp; omega
  have f3 : ((n.kd : Int) != 3) = true := by simp; omega
  clear h2 h3
  unfold Nd.v
  go_enter Try.func23, Try.ntmps23
  go_wp2_with fail
  go_ret
  exact ⟨rfl, k0⟩
set_option maxRecDepth 100000 in
set_option maxHeartbeats 1600000 in
theorem rGoes_nan (n : Nd) (ca : Option Addr) (cap x : Nat) (w : World) (hx : nanB x = true) (h : n.kd = 2 ∨ n.kd = 3) :
    Calls Try.prog 23 #[n.v ca cap, .float .f64 x] w fun e w' => e = .returned (.int .u8 (n.ms : Nat)) ∧ Keep w w' := by
  have k0 : Keep w (w.alloc (Obj.cells #[Value.int IntKind.u8 n.kd, Value.int IntKind.i64 n.vl, Value.int IntKind.i64 n.ft, Value.float FloatKind.f64 n.th, Value.slice ca n.cs.length cap, Value.int IntKind.u8 n.ms, Value.int IntKind.i64 n.lf, Value.int IntKind.i64 n.rt] 40)) := (Keep.refl w).alloc _
  have N := fun wx => rnan_any x wx
  rw [hx] at N
  clear hx
  unfold Nd.v
  rcases h with h | h
  · have e2 : ((n.kd : Int) == 2) = true := by simp; omega
    have f2 : ((n.kd : Int) != 2) = false := by simp; omega
    clear h
    go_enter Try.func23, Try.ntmps23
    go_wp2_with fail
    refine (N _).mono ?_
    rintro e w1 ⟨rfl, rfl⟩
    go_wp2_with fail
    go_ret
    exact ⟨rfl, k0⟩
  · have e2 : ((n.kd : Int) == 2) = false := by simp; omega
    have f2 : ((n.kd : Int) != 2) = true := by simp; omega
    have e3 : ((n.kd : Int) == 3) = true := by simp; omega
    have f3 : ((n.kd : Int) != 3) = false := by simp; omega
    clear h
    go_enter Try.func23, Try.ntmps23
    go_wp2_with fail
    refine (N _).mono ?_
    rintro e w1 ⟨rfl, rfl⟩
    go_wp2_with fail
    go_ret
    exact ⟨rfl, k0⟩
set_option maxRecDepth 100000 in
set_option maxHeartbeats 1600000 in
theorem rGoes_number (n : Nd) (ca : Option Addr) (cap x : Nat) (w : World) (hx : nanB x = false) (h : n.kd = 2) :
    Calls Try.prog 23 #[n.v ca cap, .float .f64 x] w fun e w' => e = .returned (.int .u8 ((if leB x n.th then 1 else 2 : Nat) : Nat)) ∧ Keep w w' := by
  have k0 : Keep w (w.alloc (Obj.cells #[Value.int IntKind.u8 n.kd, Value.int IntKind.i64 n.vl, Value.int IntKind.i64 n.ft, Value.float FloatKind.f64 n.th, Value.slice ca n.cs.length cap, Value.int IntKind.u8 n.ms, Value.int IntKind.i64 n.lf, Value.int IntKind.i64 n.rt] 40)) := (Keep.refl w).alloc _
  have N := fun wx => rnan_any x wx
  rw [hx] at N
  have e2 : ((n.kd : Int) == 2) = true := by simp; omega
  have f2 : ((n.kd : Int) != 2) = false := by simp; omega
  clear hx h
  have HL : Hid (leB x n.th = (FloatKind.f64.format.order x n.th == some .lt || FloatKind.f64.format.order x n.th == some .eq)) := rfl
  obtain ⟨R, hR⟩ : ∃ R : Nat, (if leB x n.th then 1 else 2 : Nat) = R := ⟨_, rfl⟩
  have HR : Hid ((if leB x n.th then 1 else 2 : Nat) = R) := hR
  rw [hR]
  clear hR
  unfold Nd.v
  cases h1 : (FloatKind.f64.format.order x n.th == some .lt) <;> cases h2 : (FloatKind.f64.format.order x n.th == some .eq)
  all_goals
    have HS := HR.out
    rw [HL.out, h1, h2] at HS
    simp at HS
    have HV : Hid (R = _) := HS.symm
    clear HL HR HS
    go_enter Try.func23, Try.ntmps23
    go_wp2_with fail
    refine (N _).mono ?_
    rintro e w1 ⟨rfl, rfl⟩
    go_wp2_with fail
    go_ret
    exact ⟨ret_int (by rw [HV.out]; rfl), k0⟩
set_option maxRecDepth 100000 in
set_option maxHeartbeats 1600000 in
theorem rGoes_cats (n : Nd) (ca : Option Addr) (cap x : Nat) (w : World) (hx : nanB x = false) (h : n.kd = 3) (hr : RdI w ca n.cs) (hl : n.cs.length ≤ 17592186044416) (hc : n.cs.length ≤ cap) :
    Calls Try.prog 23 #[n.v ca cap, .float .f64 x] w fun e w' => e = .returned (.int .u8 ((if inB n.cs x then 1 else 2 : Nat) : Nat)) ∧ Keep w w' := by
  have k0 : Keep w (w.alloc (Obj.cells #[Value.int IntKind.u8 n.kd, Value.int IntKind.i64 n.vl, Value.int IntKind.i64 n.ft, Value.float FloatKind.f64 n.th, Value.slice ca n.cs.length cap, Value.int IntKind.u8 n.ms, Value.int IntKind.i64 n.lf, Value.int IntKind.i64 n.rt] 40)) := (Keep.refl w).alloc _
  have N := fun wx => rnan_any x wx
  rw [hx] at N
  have e2 : ((n.kd : Int) == 2) = false := by simp; omega
  have f2 : ((n.kd : Int) != 2) = true := by simp; omega
  have e3 : ((n.kd : Int) == 3) = true := by simp; omega
  have f3 : ((n.kd : Int) != 3) = false := by simp; omega
  clear hx h
  obtain ⟨R, hR⟩ : ∃ R : Nat, (if inB n.cs x then 1 else 2 : Nat) = R := ⟨_, rfl⟩
  have HR : Hid ((if inB n.cs x then 1 else 2 : Nat) = R) := hR
  rw [hR]
  clear hR
  have hr' := hr.keep k0
  unfold Nd.v
  go_enter Try.func23, Try.ntmps23
  go_wp2_with fail
  refine (N _).mono ?_
  rintro e w1 ⟨rfl, rfl⟩
  go_wp2_with fail
  go_loop [29] (fun i => ∃ k : Nat, k ≤ n.cs.length ∧ i = .int .i64 k ∧ Hid (∀ i (hi : i < n.cs.length), i < k → (FloatKind.f64.format.order (floatOfInt FloatKind.f64 n.cs[i]) x == some .eq) = false)) (fun i => n.cs.length - (intOf i).toNat)
  case atStart => exact ⟨0, by omega, rfl, by intro i hi h; omega⟩
  case round =>
    obtain ⟨k, hk, rfl, hinv⟩ := hrel
    by_cases hkl : k < n.cs.length
    · obtain ⟨b, o, rfl, hc⟩ := hr' k hkl
      have hsy := eq_symm (floatOfInt FloatKind.f64 n.cs[k]) x
      cases he : (FloatKind.f64.format.order x (floatOfInt FloatKind.f64 n.cs[k]) == some .eq)
      · rw [he] at hsy
        have hn : Hid (∀ i (hi : i < n.cs.length), i < k + 1 → (FloatKind.f64.format.order (floatOfInt FloatKind.f64 n.cs[i]) x == some .eq) = false) := by
          intro i hi h
          rcases Nat.lt_or_ge i k with h1 | h1
          · exact hinv.out i hi h1
          · obtain rfl : i = k := by omega
            exact hsy
        clear hsy
        go_wp2_with fail
        go_round
        case rel => exact ⟨k + 1, by omega, by go_num, hn⟩
        case measure => simp [intOf]; omega
      · rw [he] at hsy
        have HV : Hid (R = 1) := by show _ = _; rw [← HR.out, inB_yes hkl hsy]; rfl
        clear hsy HR
        go_wp2_with fail
        go_ret
        exact ⟨ret_int (by rw [HV.out]; rfl), k0⟩
    · have HV : Hid (R = 2) := by show _ = _; rw [← HR.out, inB_no fun i hi => hinv.out i hi (by omega)]; rfl
      clear HR
      go_wp2_with fail
      go_ret
      exact ⟨ret_int (by rw [HV.out]; rfl), k0⟩
/-- The reference's Goes is the program's. -/
theorem rGoes_any (n : Nd) (ca : Option Addr) (cap x : Nat) (w : World) (hr : RdI w ca n.cs) (hl : n.cs.length ≤ 17592186044416) (hc : n.cs.length ≤ cap) :
    Calls Try.prog 23 #[n.v ca cap, .float .f64 x] w fun e w' => e = .returned (.int .u8 (gsS n x : Nat)) ∧ Keep w w' := by
  by_cases h2 : n.kd = 2
  · cases hx : nanB x
    · rw [gsS_number n x hx h2]; exact rGoes_number n ca cap x w hx h2
    · rw [gsS_nan n x hx (.inl h2)]; exact rGoes_nan n ca cap x w hx (.inl h2)
  · by_cases h3 : n.kd = 3
    · cases hx : nanB x
      · rw [gsS_cats n x hx h3]; exact rGoes_cats n ca cap x w hx h3 hr hl hc
      · rw [gsS_nan n x hx (.inr h3)]; exact rGoes_nan n ca cap x w hx (.inr h3)
    · rw [gsS_none n x h2 h3]; exact rGoes_none n ca cap x w h2 h3
end Go.Proofs.Ytbchinfmdioijaa
set_option linter.unusedVariables false
set_option linter.unusedSimpArgs false
namespace Go.Proofs.Ytbchinfmdioijaa
open Go.RowKit Go.Shelf
attribute [local go_sem] run_store_float
set_option maxRecDepth 100000 in
set_option maxHeartbeats 2000000 in
theorem rFits_any (w : World) (a : Option Addr) (cap m : Nat) (out : Int) (L : List Nd) (hLn : L.length ≤ 2199023255552) (hR : Rgt L) (hrd : RdN w a L) :
    Calls Try.prog 58 #[.agg #[.int .i64 out, .slice a L.length cap], .int .i64 (m : Nat)] w fun e w' => e = .returned (.bool (!lackB L m)) ∧ Keep w w' := by
  have k0 : Keep w (w.alloc (Obj.cells #[Value.int IntKind.i64 out, Value.slice a L.length cap] 24)) := (Keep.refl w).alloc _
  go_enter Try.func58, Try.ntmps58
  go_wp2_with fail
  generalize w.alloc _ = w1 at k0 ⊢
  go_loopw [10] (fun iv wr => ∃ k : Nat, k ≤ L.length ∧ iv = .int .i64 k ∧ Keep w wr ∧ Hid (∀ j, j < k → ¬ (((L.getD j nd0).kd = 2 ∨ (L.getD j nd0).kd = 3) ∧ (m : Int) ≤ (L.getD j nd0).ft))) (fun iv _ => L.length - (intOf iv).toNat)
  case atStart => exact ⟨0, by omega, rfl, k0, by intro j hj; omega⟩
  case round =>
    obtain ⟨k, hk, rfl, kw, hinv⟩ := hrel
    clear k0
    by_cases hkl : k < L.length
    · have hkc : (k : Int) < (L.length : Int) := by omega
      obtain ⟨b, o, ca, cp, rfl, hnd⟩ := (hrd.keep kw) k hkl
      have c0 := hnd.c0
      have c1 := hnd.c1
      have c2 := hnd.c2
      have c3 := hnd.c3
      have c4 := hnd.c4
      have c5 := hnd.c5
      have c6 := hnd.c6
      have c7 := hnd.c7
      have hk1 := hR.kd1 hkl
      have hk2 : (((L.getD k nd0).kd : Int) != 1) = decide ((L.getD k nd0).kd = 2 ∨ (L.getD k nd0).kd = 3) := by
        rw [bne, hk1, Bool.not_not]
      have kb := fun ob => (kw.alloc ob)
      obtain ⟨pv, hpv⟩ : ∃ pv, decide ((L.getD k nd0).kd = 2 ∨ (L.getD k nd0).kd = 3) = pv := ⟨_, rfl⟩
      have HP : Hid (decide ((L.getD k nd0).kd = 2 ∨ (L.getD k nd0).kd = 3) = pv) := hpv
      rw [hpv] at hk1 hk2
      clear hpv hnd
      obtain ⟨N, hN⟩ : ∃ N, L.getD k nd0 = N := ⟨_, rfl⟩
      have HN : Hid (L.getD k nd0 = N) := hN
      rw [hN] at hk1 hk2 c0 c1 c2 c3 c4 c5 c6 c7
      clear hN
      have HS : (¬ (pv = true ∧ (m : Int) ≤ N.ft)) → Hid (∀ j, j < k + 1 → ¬ (((L.getD j nd0).kd = 2 ∨ (L.getD j nd0).kd = 3) ∧ (m : Int) ≤ (L.getD j nd0).ft)) := by
        intro hno j hj hh
        by_cases e : j = k
        · subst e
          rw [HN.out] at hh
          exact hno ⟨by rw [← HP.out, HN.out]; exact decide_eq_true hh.1, hh.2⟩
        · exact hinv.out j (by omega) hh
      cases pv
      · have HT := HS (by simp)
        go_wp2_with fail
        go_roundw
        case rel => exact ⟨k + 1, by omega, by go_num, kb _, HT⟩
        case measure => simp [intOf]; omega
      · by_cases hf : (m : Int) ≤ N.ft
        · have HY : Hid (lackB L m = true) := lackB_yes hkl ⟨of_decide_eq_true HP.out, by rw [HN.out]; exact hf⟩
          go_wp2_with fail
          go_ret
          exact ⟨ret_bool (by rw [HY.out]; rfl), kb _⟩
        · have HT := HS (fun h => hf h.2)
          go_wp2_with fail
          go_roundw
          case rel => exact ⟨k + 1, by omega, by go_num, kb _, HT⟩
          case measure => simp [intOf]; omega
    · have hkc : ¬ (k : Int) < (L.length : Int) := by omega
      have HN : Hid (lackB L m = false) := lackB_no (fun j hj => hinv.out j (by omega))
      go_wp2_with fail
      go_ret
      exact ⟨ret_bool (by rw [HN.out]; rfl), kw⟩
end Go.Proofs.Ytbchinfmdioijaa
