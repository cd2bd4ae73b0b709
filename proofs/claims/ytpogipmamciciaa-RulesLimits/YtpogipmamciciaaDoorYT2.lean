import Derived.Test.YtpogipmamciciaaDoorProg
import Derived.Test.YtpogipmamciciaaDoorYT1
import Derived.WalkKit
import Derived.WalkSpells
import Derived.WalkLawsBesides
import Derived.Deep.Draws
import Derived.Deep.QuietTactic
import Derived.BigQuiet
import Derived.Laws.Externs
import Derived.Laws.CopyOwn
set_option linter.unusedVariables false
set_option linter.unusedSimpArgs false
namespace Go.Proofs.YtpogipmamciciaaDoor
open Go.RowKit
def bareB (n : Nd) : Bool := decide (n.th = 0) && decide (n.cs.length = 0)
theorem isBare_any (w : World) (n : Nd) (b o : Nat) (ca : Option Addr) (cap : Nat) (h : NdAt w b o n ca cap) :
    Calls Tryd.prog 59 #[.pointer (some ⟨b, o, none⟩)] w fun e w' => e = .returned (.bool (bareB n)) ∧ w' = w := by
  have h3 := h.c3
  have h4 := h.c4
  have hZ := fun w => isZero_any n.th w
  have HB : Hid (bareB n = (decide (n.th = 0) && decide (n.cs.length = 0))) := rfl
  generalize bareB n = B at HB ⊢
  go_enter Tryd.func59, Tryd.ntmps59
  go_wp2_with (go_at_call 61; refine (hZ _).mono ?_; rintro e w' ⟨rfl, rfl⟩)
  all_goals
    go_ret
    refine ⟨ret_bool ?_, rfl⟩
    rw [HB.out, Bool.eq_iff_iff]
    clear HB hZ
    simp_all
    try omega
def spl (n : Nd) (N : Nat) : Bool := decide (n.vl = 0 ∧ 0 ≤ n.ft ∧ n.ft < 65536 ∧ (n.ms = 1 ∨ n.ms = 2) ∧ (1 ≤ n.lf ∧ n.lf < (N : Int)) ∧ (1 ≤ n.rt ∧ n.rt < (N : Int)))
set_option maxRecDepth 100000 in
theorem isSplit_any (w : World) (n : Nd) (b o N : Nat) (ca : Option Addr) (cap : Nat) (h : NdAt w b o n ca cap) :
    Calls Tryd.prog 60 #[.pointer (some ⟨b, o, none⟩), .int .i64 (N : Nat)] w fun e w' => e = .returned (.bool (spl n N)) ∧ w' = w := by
  have h1 := h.c1
  have h2 := h.c2
  have h5 := h.c5
  have h6 := h.c6
  have h7 := h.c7
  have hS := fun w => isSide_any n.ms w
  have hL := fun w => isBelow_any n.lf N w
  have hR := fun w => isBelow_any n.rt N w
  have HB : Hid (spl n N = decide (n.vl = 0 ∧ 0 ≤ n.ft ∧ n.ft < 65536 ∧ (n.ms = 1 ∨ n.ms = 2) ∧ (1 ≤ n.lf ∧ n.lf < (N : Int)) ∧ (1 ≤ n.rt ∧ n.rt < (N : Int)))) := rfl
  generalize spl n N = B at HB ⊢
  obtain ⟨s, hs⟩ : ∃ s, decide (n.ms = 1 ∨ n.ms = 2) = s := ⟨_, rfl⟩
  obtain ⟨l, hl⟩ : ∃ s, decide (1 ≤ n.lf ∧ n.lf < (N : Int)) = s := ⟨_, rfl⟩
  obtain ⟨r, hr⟩ : ∃ s, decide (1 ≤ n.rt ∧ n.rt < (N : Int)) = s := ⟨_, rfl⟩
  rw [hs] at hS
  rw [hl] at hL
  rw [hr] at hR
  have H1 : Hid (decide (n.ms = 1 ∨ n.ms = 2) = s ∧ decide (1 ≤ n.lf ∧ n.lf < (N : Int)) = l ∧ decide (1 ≤ n.rt ∧ n.rt < (N : Int)) = r) := ⟨hs, hl, hr⟩
  clear hs hl hr
  obtain ⟨c, hc⟩ : ∃ c, n.lf = c := ⟨_, rfl⟩
  have HC : Hid (n.lf = c) := hc
  rw [hc] at hL h6
  clear hc
  go_enter Tryd.func60, Tryd.ntmps60
  go_wp2_with first
    | (go_at_call 66; refine (hS _).mono ?_; rintro e w' ⟨rfl, rfl⟩)
    | (go_at_call_of 67 (Value.int .i64 c); refine (hL _).mono ?_; rintro e w' ⟨rfl, rfl⟩)
    | (go_at_call 67; refine (hR _).mono ?_; rintro e w' ⟨rfl, rfl⟩)
  all_goals
    go_ret
    refine ⟨ret_bool ?_, rfl⟩
    have H2 := H1.out
    rw [HB.out]
    clear HB H1 hL hR hS
    grind
/-- A right node of so many. -/
def rightB (n : Nd) (N : Nat) : Bool :=
  if n.kd = 1 then decide (n.ft = 0) && bareB n && decide (n.ms = 0) && decide (n.lf = 0) && decide (n.rt = 0)
  else if n.kd = 2 then spl n N && !nanB n.th && decide (n.cs.length = 0)
  else if n.kd = 3 then spl n N && decide (n.th = 0) && catsB n.cs
  else false
set_option maxRecDepth 100000 in
set_option maxHeartbeats 1000000 in
theorem isRight_any (w : World) (n : Nd) (b o N : Nat) (ca : Option Addr) (cap : Nat) (h : NdAt w b o n ca cap) :
    Calls Tryd.prog 54 #[.pointer (some ⟨b, o, none⟩), .int .i64 (N : Nat)] w fun e w' => e = .returned (.bool (rightB n N)) ∧ w' = w := by
  have h0 := h.c0
  have h2 := h.c2
  have h3 := h.c3
  have h4 := h.c4
  have h5 := h.c5
  have h6 := h.c6
  have h7 := h.c7
  have hB := fun (wx : World) (e : wx = w) => isBare_any wx n b o ca cap (e ▸ h)
  have hS := fun (wx : World) (e : wx = w) => isSplit_any wx n b o N ca cap (e ▸ h)
  have hN := fun wx => IsNaN_any n.th wx
  have hZ := fun wx => isZero_any n.th wx
  have hC := fun (wx : World) (e : wx = w) => areCats_any ca cap n.cs wx h.sz (e ▸ h.rd)
  have HR : Hid (rightB n N = (if n.kd = 1 then decide (n.ft = 0) && bareB n && decide (n.ms = 0) && decide (n.lf = 0) && decide (n.rt = 0)
    else if n.kd = 2 then spl n N && !nanB n.th && decide (n.cs.length = 0)
    else if n.kd = 3 then spl n N && decide (n.th = 0) && catsB n.cs
    else false)) := rfl
  generalize rightB n N = R at HR ⊢
  generalize bareB n = bb at *
  generalize spl n N = sp at *
  generalize nanB n.th = nn at *
  generalize catsB n.cs = cc at *
  generalize decide (n.th = 0) = zz at *
  by_cases k1 : n.kd = 1
  · rw [k1] at h0
    rw [if_pos k1] at HR
    clear h
    go_enter Tryd.func54, Tryd.ntmps54
    go_wp2_with (go_at_call 59; refine (hB _ rfl).mono ?_; rintro e w' ⟨rfl, rfl⟩)
    all_goals
      go_ret
      refine ⟨ret_bool ?_, rfl⟩
      rw [HR.out]
      clear HR hB hS hN hZ hC
      simp_all
      try first | rfl | (rw [Bool.eq_iff_iff]; simp)
  · rw [if_neg k1] at HR
    by_cases k2 : n.kd = 2
    · rw [k2] at h0
      rw [if_pos k2] at HR
      clear h
      go_enter Tryd.func54, Tryd.ntmps54
      go_wp2_with first
        | (go_at_call 60; refine (hS _ rfl).mono ?_; rintro e w' ⟨rfl, rfl⟩)
        | (go_at_call 49; refine (hN _).mono ?_; rintro e w' ⟨rfl, rfl⟩)
      all_goals
        go_ret
        refine ⟨ret_bool ?_, rfl⟩
        rw [HR.out]
        clear HR hB hS hN hZ hC
        simp_all
        try first | rfl | (rw [Bool.eq_iff_iff]; simp)
    · rw [if_neg k2] at HR
      by_cases k3 : n.kd = 3
      · rw [k3] at h0
        rw [if_pos k3] at HR
        clear h
        go_enter Tryd.func54, Tryd.ntmps54
        go_wp2_with first
          | (go_at_call 60; refine (hS _ rfl).mono ?_; rintro e w' ⟨rfl, rfl⟩)
          | (go_at_call 61; refine (hZ _).mono ?_; rintro e w' ⟨rfl, rfl⟩)
          | (go_at_call 62; refine (hC _ rfl).mono ?_; rintro e w' ⟨rfl, rfl⟩)
        all_goals
          go_ret
          refine ⟨ret_bool ?_, rfl⟩
          rw [HR.out]
          clear HR hB hS hN hZ hC
          simp_all
          try first | rfl | (rw [Bool.eq_iff_iff]; simp)
      · rw [if_neg k3] at HR
        have q1 : ((n.kd : Int) == 1) = false := by rw [beq_eq_false_iff_ne]; omega
        have q2 : ((n.kd : Int) == 2) = false := by rw [beq_eq_false_iff_ne]; omega
        have q3 : ((n.kd : Int) == 3) = false := by rw [beq_eq_false_iff_ne]; omega
        clear h
        go_enter Tryd.func54, Tryd.ntmps54
        go_wp2_with fail
        go_ret
        exact ⟨ret_bool HR.out.symm, rfl⟩
end Go.Proofs.YtpogipmamciciaaDoor
