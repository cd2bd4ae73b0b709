import Derived.Test.YtcdcheecaphmgaaDoorProg
import Derived.Test.YtcdcheecaphmgaaDoorYV1
import Derived.WalkKit
import Derived.WalkSpells
import Derived.WalkLawsBesides
import Derived.Deep.Draws
import Derived.Deep.QuietTactic
import Derived.BigQuiet
import Derived.Laws.Externs
import Derived.Laws.CopyOwn
set_option linter.unusedVariables false
set_option linter.unusedSimpArgs false
namespace Go.Proofs.YtcdcheecaphmgaaDoor
open Go.RowKit
theorem gsS_nan (n : Nd) (x : Nat) (hx : nanB x = true) (h : n.kd = 2 ∨ n.kd = 3) : gsS n x = n.ms := by
  unfold gsS
  by_cases h2 : n.kd = 2
  · rw [if_pos h2]; unfold sdS; rw [hx]; rfl
  · rw [if_neg h2, if_pos (by omega)]
    unfold amS
    rw [inB_no fun i hi => eq_nan _ _ hx]
    unfold sdS; rw [hx]; rfl
theorem gsS_number (n : Nd) (x : Nat) (hx : nanB x = false) (h : n.kd = 2) : gsS n x = if leB x n.th then 1 else 2 := by
  unfold gsS sdS; rw [if_pos h, hx]; rfl
theorem gsS_cats (n : Nd) (x : Nat) (hx : nanB x = false) (h : n.kd = 3) : gsS n x = if inB n.cs x then 1 else 2 := by
  unfold gsS amS sdS; rw [if_neg (by omega), if_pos h, hx]; rfl
theorem gsS_none (n : Nd) (x : Nat) (h2 : n.kd ≠ 2) (h3 : n.kd ≠ 3) : gsS n x = 0 := by
  unfold gsS; rw [if_neg h2, if_neg h3]
set_option maxRecDepth 100000 in
set_option maxHeartbeats 1600000 in
theorem rGoes_none (n : Nd) (ca : Option Addr) (cap x : Nat) (w : World) (h2 : n.kd ≠ 2) (h3 : n.kd ≠ 3) :
    Calls Tryd.prog 46 #[n.v ca cap, .float .f64 x] w fun e w' => e = .returned (.int .u8 0) ∧ Keep w w' := by
  have k0 : Keep w (w.alloc (Obj.cells #[Value.int IntKind.u8 n.kd, Value.int IntKind.i64 n.vl, Value.int IntKind.i64 n.ft, Value.float FloatKind.f64 n.th, Value.slice ca n.cs.length cap, Value.int IntKind.u8 n.ms, Value.int IntKind.i64 n.lf, Value.int IntKind.i64 n.rt] 63)) := (Keep.refl w).alloc _
  have e2 : ((n.kd : Int) == 2) = false := by simp; omega
  have f2 : ((n.kd : Int) != 2) = true := by simp; omega
  have e3 : ((n.kd : Int) == 3) = false := by simp; omega
  have f3 : ((n.kd : Int) != 3) = true := by simp; omega
  clear h2 h3
  unfold Nd.v
  go_enter Tryd.func46, Tryd.ntmps46
  go_wp2_with fail
  go_ret
  exact ⟨rfl, k0⟩
set_option maxRecDepth 100000 in
set_option maxHeartbeats 1600000 in
theorem rGoes_nan (n : Nd) (ca : Option Addr) (cap x : Nat) (w : World) (hx : nanB x = true) (h : n.kd = 2 ∨ n.kd = 3) :
    Calls Tryd.prog 46 #[n.v ca cap, .float .f64 x] w fun e w' => e = .returned (.int .u8 (n.ms : Nat)) ∧ Keep w w' := by
  have k0 : Keep w (w.alloc (Obj.cells #[Value.int IntKind.u8 n.kd, Value.int IntKind.i64 n.vl, Value.int IntKind.i64 n.ft, Value.float FloatKind.f64 n.th, Value.slice ca n.cs.length cap, Value.int IntKind.u8 n.ms, Value.int IntKind.i64 n.lf, Value.int IntKind.i64 n.rt] 63)) := (Keep.refl w).alloc _
  have N := fun wx => rnan_any x wx
  rw [hx] at N
  clear hx
  unfold Nd.v
  rcases h with h | h
  · have e2 : ((n.kd : Int) == 2) = true := by simp; omega
    have f2 : ((n.kd : Int) != 2) = false := by simp; omega
    clear h
    go_enter Tryd.func46, Tryd.ntmps46
    go_wp2_with fail
    refine (N _).mono ?_
    rintro e w1 ⟨rfl, rfl⟩
    go_wp2_with fail
    go_ret
    exact ⟨rfl, k0⟩
  · have e2 : ((n.kd : Int) == 2) = false := by simp; omega
    have f2 : ((n.kd : Int) != 2) = true := by simp; omega
    have e3 : ((n.kd : Int) == 3) = true := by simp; omega
    have f3 : ((n.kd : Int) != 3) = false := by simp; omega
    clear h
    go_enter Tryd.func46, Tryd.ntmps46
    go_wp2_with fail
    refine (N _).mono ?_
    rintro e w1 ⟨rfl, rfl⟩
    go_wp2_with fail
    go_ret
    exact ⟨rfl, k0⟩
set_option maxRecDepth 100000 in
set_option maxHeartbeats 1600000 in
theorem rGoes_number (n : Nd) (ca : Option Addr) (cap x : Nat) (w : World) (hx : nanB x = false) (h : n.kd = 2) :
    Calls Tryd.prog 46 #[n.v ca cap, .float .f64 x] w fun e w' => e = .returned (.int .u8 ((if leB x n.th then 1 else 2 : Nat) : Nat)) ∧ Keep w w' := by
  have k0 : Keep w (w.alloc (Obj.cells #[Value.int IntKind.u8 n.kd, Value.int IntKind.i64 n.vl, Value.int IntKind.i64 n.ft, Value.float FloatKind.f64 n.th, Value.slice ca n.cs.length cap, Value.int IntKind.u8 n.ms, Value.int IntKind.i64 n.lf, Value.int IntKind.i64 n.rt] 63)) := (Keep.refl w).alloc _
  have N := fun wx => rnan_any x wx
  rw [hx] at N
  have e2 : ((n.kd : Int) == 2) = true := by simp; omega
  have f2 : ((n.kd : Int) != 2) = false := by simp; omega
  clear hx h
  have HL : Hid (leB x n.th = (FloatKind.f64.format.order x n.th == some .lt || FloatKind.f64.format.order x n.th == some .eq)) := rfl
  obtain ⟨R, hR⟩ : ∃ R : Nat, (if leB x n.th then 1 else 2 : Nat) = R := ⟨_, rfl⟩
  have HR : Hid ((if leB x n.th then 1 else 2 : Nat) = R) := hR
  rw [hR]
  clear hR
  unfold Nd.v
  cases h1 : (FloatKind.f64.format.order x n.th == some .lt) <;> cases h2 : (FloatKind.f64.format.order x n.th == some .eq)
  all_goals
    have HS := HR.out
    rw [HL.out, h1, h2] at HS
    simp at HS
    have HV : Hid (R = _) := HS.symm
    clear HL HR HS
    go_enter Tryd.func46, Tryd.ntmps46
    go_wp2_with fail
    refine (N _).mono ?_
    rintro e w1 ⟨rfl, rfl⟩
    go_wp2_with fail
    go_ret
    exact ⟨ret_int (by rw [HV.out]; rfl), k0⟩
set_option maxRecDepth 100000 in
set_option maxHeartbeats 1600000 in
theorem rGoes_cats (n : Nd) (ca : Option Addr) (cap x : Nat) (w : World) (hx : nanB x = false) (h : n.kd = 3) (hr : RdI w ca n.cs) (hl : n.cs.length ≤ 17592186044416) (hc : n.cs.length ≤ cap) :
    Calls Tryd.prog 46 #[n.v ca cap, .float .f64 x] w fun e w' => e = .returned (.int .u8 ((if inB n.cs x then 1 else 2 : Nat) : Nat)) ∧ Keep w w' := by
  have k0 : Keep w (w.alloc (Obj.cells #[Value.int IntKind.u8 n.kd, Value.int IntKind.i64 n.vl, Value.int IntKind.i64 n.ft, Value.float FloatKind.f64 n.th, Value.slice ca n.cs.length cap, Value.int IntKind.u8 n.ms, Value.int IntKind.i64 n.lf, Value.int IntKind.i64 n.rt] 63)) := (Keep.refl w).alloc _
  have N := fun wx => rnan_any x wx
  rw [hx] at N
  have e2 : ((n.kd : Int) == 2) = false := by simp; omega
  have f2 : ((n.kd : Int) != 2) = true := by simp; omega
  have e3 : ((n.kd : Int) == 3) = true := by simp; omega
  have f3 : ((n.kd : Int) != 3) = false := by simp; omega
  clear hx h
  obtain ⟨R, hR⟩ : ∃ R : Nat, (if inB n.cs x then 1 else 2 : Nat) = R := ⟨_, rfl⟩
  have HR : Hid ((if inB n.cs x then 1 else 2 : Nat) = R) := hR
  rw [hR]
  clear hR
  have hr' := hr.keep k0
  unfold Nd.v
  go_enter Tryd.func46, Tryd.ntmps46
  go_wp2_with fail
  refine (N _).mono ?_
  rintro e w1 ⟨rfl, rfl⟩
  go_wp2_with fail
  go_loop [29] (fun i => ∃ k : Nat, k ≤ n.cs.length ∧ i = .int .i64 k ∧ Hid (∀ i (hi : i < n.cs.length), i < k → (FloatKind.f64.format.order (floatOfInt FloatKind.f64 n.cs[i]) x == some .eq) = false)) (fun i => n.cs.length - (intOf i).toNat)
  case atStart => exact ⟨0, by omega, rfl, by intro i hi h; omega⟩
  case round =>
    obtain ⟨k, hk, rfl, hinv⟩ := hrel
    by_cases hkl : k < n.cs.length
    · obtain ⟨b, o, rfl, hc⟩ := hr' k hkl
      have hsy := eq_symm (floatOfInt FloatKind.f64 n.cs[k]) x
      cases he : (FloatKind.f64.format.order x (floatOfInt FloatKind.f64 n.cs[k]) == some .eq)
      · rw [he] at hsy
        have hn : Hid (∀ i (hi : i < n.cs.length), i < k + 1 → (FloatKind.f64.format.order (floatOfInt FloatKind.f64 n.cs[i]) x == some .eq) = false) := by
          intro i hi h
          rcases Nat.lt_or_ge i k with h1 | h1
          · exact hinv.out i hi h1
          · obtain rfl : i = k := by omega
            exact hsy
        clear hsy
        go_wp2_with fail
        go_round
        case rel => exact ⟨k + 1, by omega, by go_num, hn⟩
        case measure => simp [intOf]; omega
      · rw [he] at hsy
        have HV : Hid (R = 1) := by show _ = _; rw [← HR.out, inB_yes hkl hsy]; rfl
        clear hsy HR
        go_wp2_with fail
        go_ret
        exact ⟨ret_int (by rw [HV.out]; rfl), k0⟩
    · have HV : Hid (R = 2) := by show _ = _; rw [← HR.out, inB_no fun i hi => hinv.out i hi (by omega)]; rfl
      clear HR
      go_wp2_with fail
      go_ret
      exact ⟨ret_int (by rw [HV.out]; rfl), k0⟩
/-- The reference's Goes is the program's. -/
theorem rGoes_any (n : Nd) (ca : Option Addr) (cap x : Nat) (w : World) (hr : RdI w ca n.cs) (hl : n.cs.length ≤ 17592186044416) (hc : n.cs.length ≤ cap) :
    Calls Tryd.prog 46 #[n.v ca cap, .float .f64 x] w fun e w' => e = .returned (.int .u8 (gsS n x : Nat)) ∧ Keep w w' := by
  by_cases h2 : n.kd = 2
  · cases hx : nanB x
    · rw [gsS_number n x hx h2]; exact rGoes_number n ca cap x w hx h2
    · rw [gsS_nan n x hx (.inl h2)]; exact rGoes_nan n ca cap x w hx (.inl h2)
  · by_cases h3 : n.kd = 3
    · cases hx : nanB x
      · rw [gsS_cats n x hx h3]; exact rGoes_cats n ca cap x w hx h3 hr hl hc
      · rw [gsS_nan n x hx (.inr h3)]; exact rGoes_nan n ca cap x w hx (.inr h3)
    · rw [gsS_none n x h2 h3]; exact rGoes_none n ca cap x w h2 h3
end Go.Proofs.YtcdcheecaphmgaaDoor
