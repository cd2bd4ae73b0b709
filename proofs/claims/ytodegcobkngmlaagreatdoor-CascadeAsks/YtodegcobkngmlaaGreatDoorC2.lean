import Derived.Test.YtodegcobkngmlaaGreatDoorProg
import Derived.Test.YtodegcobkngmlaaGreatDoorH1
import Derived.WalkKit
import Derived.WalkSpells
import Derived.WalkLawsBesides
import Derived.Deep.Draws
import Derived.Deep.QuietTactic
import Derived.BigQuiet
import Derived.Laws.Externs
import Derived.Laws.CopyOwn
import Derived.Shelf.Abstract
import Derived.Deep.RegionLaw
import Derived.BigRegion
import Derived.Deep.RegionHeld3
set_option linter.unusedVariables false
set_option linter.unusedSimpArgs false
namespace Go.Proofs.YtodegcobkngmlaaGreatDoor
open Go.RowKit Go.Shelf
abbrev cOk (l : List Int) (i : Nat) : Prop := 0 ≤ l.getD i 0 ∧ l.getD i 0 < 1024 ∧ (0 < i → l.getD (i - 1) 0 < l.getD i 0)
set_option maxRecDepth 100000 in
theorem ruleCats_any (a : Option Addr) (c : Nat) (l : List Int) (w : World) (hl : l.length ≤ 17592186044416) (hr : RdI w a l) :
    Calls Tryz.prog 97 #[.slice a l.length c] w fun e w' => e = .returned (.bool (catsB l)) ∧ w' = w := by
  go_enter Tryz.func97, Tryz.ntmps97
  go_wp2_with fail
  go_loop [7] (fun i => ∃ k : Nat, k ≤ l.length ∧ i = .int .i64 k ∧ Hid (∀ i, i < k → cOk l i)) (fun i => l.length - (intOf i).toNat)
  case atStart => exact ⟨0, by omega, rfl, by intro i hi; omega⟩
  case round =>
    obtain ⟨k, hk, rfl, hinv⟩ := hrel
    by_cases hkl : k < l.length
    · have hklc : (k : Int) < (l.length : Int) := by omega
      have HK : Hid (k < l.length) := hkl
      obtain ⟨b, o, rfl, hc⟩ := hr k hkl
      have hno : Hid (¬ cOk l k → catsB l = false) := fun h => catsB_no (fun hc => h (hc.2 k hkl))
      have hn : Hid (cOk l k → ∀ i, i < k + 1 → cOk l i) := by
        intro h i hi
        by_cases e : i = k
        · rw [e]; exact h
        · exact hinv.out i (by omega)
      by_cases hk0 : 0 < k
      · have hk0c : decide ((0 : Int) < (k : Int)) = true := decide_eq_true (by omega)
        obtain ⟨b', o', e', hc'⟩ := hr (k - 1) (by omega)
        simp only [Option.some.injEq, Addr.mk.injEq, and_true] at e'
        obtain ⟨rfl, rfl⟩ := e'
        have hsub : (k : Int) - 1 = ((k - 1 : Nat) : Int) := by omega
        have HD : Hid (cOk l k ↔ (0 ≤ l.getD k 0 ∧ l.getD k 0 ≤ 1023) ∧ l.getD (k - 1) 0 < l.getD k 0) := ⟨fun h => ⟨⟨h.1, by have := h.2.1; omega⟩, h.2.2 hk0⟩, fun h => ⟨h.1.1, by have := h.1.2; omega, fun _ => h.2⟩⟩
        clear hkl hk0
        generalize l.getD k 0 = x at hc HD
        generalize l.getD (k - 1) 0 = y at hc' HD
        cases hw : winB x 0 1023 with
        | false =>
          have hf := hno.out (fun h => by have := (HD.out.1 h).1; unfold winB at hw; rw [decide_eq_true this.1, decide_eq_true this.2] at hw; cases hw)
          replace hf : Hid _ := hf
          go_wp2_with (go_at_call 51; refine (within_any _ _ _ _).mono ?_; rintro e w0 ⟨rfl, rfl⟩; rw [hw])
          go_ret
          exact ⟨by rw [hf.out]; rfl, rfl⟩
        | true =>
          by_cases hxy : x ≤ y
          · have hxyc : decide (x ≤ y) = true := decide_eq_true hxy
            have hf := hno.out (fun h => by have := (HD.out.1 h).2; omega)
            replace hf : Hid _ := hf
            clear hxy
            go_wp2_with (go_at_call 51; refine (within_any _ _ _ _).mono ?_; rintro e w0 ⟨rfl, rfl⟩; rw [hw])
            go_ret
            exact ⟨by rw [hf.out]; rfl, rfl⟩
          · have hxyc : decide (x ≤ y) = false := decide_eq_false hxy
            have hg := hn.out (HD.out.2 ⟨by unfold winB at hw; simpa using hw, by omega⟩)
            replace hg : Hid _ := hg
            clear hxy
            go_wp2_with (go_at_call 51; refine (within_any _ _ _ _).mono ?_; rintro e w0 ⟨rfl, rfl⟩; rw [hw])
            go_round
            case rel => exact ⟨k + 1, by have := HK.out; omega, by go_num, hg⟩
            case measure => have := HK.out; simp [intOf]; omega
      · have e0 : k = 0 := by omega
        subst e0
        have HD : Hid (cOk l 0 ↔ (0 ≤ l.getD 0 0 ∧ l.getD 0 0 ≤ 1023)) := ⟨fun h => ⟨h.1, by have := h.2.1; omega⟩, fun h => ⟨h.1, by have := h.2; omega, fun h0 => absurd h0 (by omega)⟩⟩
        clear hkl hk0
        generalize l.getD 0 0 = x at hc HD
        rw [Nat.add_zero] at hc
        cases hw : winB x 0 1023 with
        | false =>
          have hf := hno.out (fun h => by have := (HD.out.1 h); unfold winB at hw; rw [decide_eq_true this.1, decide_eq_true this.2] at hw; cases hw)
          replace hf : Hid _ := hf
          go_wp2_with (go_at_call 51; refine (within_any _ _ _ _).mono ?_; rintro e w0 ⟨rfl, rfl⟩; rw [hw])
          go_ret
          exact ⟨by rw [hf.out]; rfl, rfl⟩
        | true =>
          have hg := hn.out (HD.out.2 (by unfold winB at hw; simpa using hw))
          replace hg : Hid _ := hg
          go_wp2_with (go_at_call 51; refine (within_any _ _ _ _).mono ?_; rintro e w0 ⟨rfl, rfl⟩; rw [hw])
          go_round
          case rel => exact ⟨1, by have := HK.out; omega, by go_num, hg⟩
          case measure => have := HK.out; simp [intOf]; omega
    · have hklc : ¬ (k : Int) < (l.length : Int) := by omega
      have hR : Hid (catsB l = decide (0 < l.length)) := by
        show _ = _
        rw [Bool.eq_iff_iff, decide_eq_true_eq, catsB_iff]
        have := hinv.out
        exact ⟨fun h => by have := h.1; omega, fun h => ⟨by omega, fun i hi => this i (by omega)⟩⟩
      clear hkl
      go_wp2_with fail
      go_ret
      exact ⟨ret_bool hR.out.symm, rfl⟩
end Go.Proofs.YtodegcobkngmlaaGreatDoor
set_option linter.unusedVariables false
set_option linter.unusedSimpArgs false
namespace Go.Proofs.YtodegcobkngmlaaGreatDoor
open Go.RowKit Go.Shelf
set_option maxRecDepth 100000 in
set_option maxHeartbeats 1000000 in
theorem refCats_any (a : Option Addr) (c : Nat) (l : List Int) (w : World) (hl : l.length ≤ 17592186044416) (hr : RdI w a l) :
    Calls Tryz.prog 86 #[.slice a l.length c] w fun e w' => e = .returned (.bool (catsB l)) ∧ Keep w w' := by
  go_enter Tryz.func86, Tryz.ntmps86
  go_wp2_with fail
  go_loopw [3] (fun i wr => ∃ k : Nat, k ≤ l.length ∧ i = .int .i64 k ∧ Hid (∀ i, i < k → cOk l i) ∧ Keep w wr) (fun i wr => l.length - (intOf i).toNat)
  case atStart => exact ⟨0, by omega, rfl, by intro i hi; omega, Keep.refl _⟩
  case round =>
    obtain ⟨k, hk, rfl, hinv, kw⟩ := hrel
    by_cases hkl : k < l.length
    · have hklc : (k : Int) < (l.length : Int) := by omega
      have HK : Hid (k < l.length) := hkl
      obtain ⟨b, o, rfl, hc⟩ := (hr.keep kw) k hkl
      have hno : Hid (¬ cOk l k → catsB l = false) := fun h => catsB_no (fun hc => h (hc.2 k hkl))
      have hn : Hid (cOk l k → ∀ i, i < k + 1 → cOk l i) := by
        intro h i hi
        by_cases e : i = k
        · rw [e]; exact h
        · exact hinv.out i (by omega)
      by_cases hk0 : 0 < k
      · have hk0c : decide ((0 : Int) < (k : Int)) = true := decide_eq_true (by omega)
        obtain ⟨b', o', e', hc'⟩ := (hr.keep kw) (k - 1) (by omega)
        simp only [Option.some.injEq, Addr.mk.injEq, and_true] at e'
        obtain ⟨rfl, rfl⟩ := e'
        have hsub : (k : Int) - 1 = ((k - 1 : Nat) : Int) := by omega
        have HD : Hid (cOk l k ↔ (0 ≤ l.getD k 0 ∧ l.getD k 0 < 1024) ∧ l.getD (k - 1) 0 < l.getD k 0) := ⟨fun h => ⟨⟨h.1, h.2.1⟩, h.2.2 hk0⟩, fun h => ⟨h.1.1, h.1.2, fun _ => h.2⟩⟩
        clear hkl
        generalize l.getD k 0 = x at hc HD
        generalize l.getD (k - 1) 0 = y at hc' HD
        by_cases hx0 : x < 0
        · have hx1 : True := trivial
          have d0 : decide (x < 0) = true := decide_eq_true (hx0)
          have hf := hno.out (fun h => by have h1 := HD.out.1 h; omega)
          replace hf : Hid _ := hf
          clear hx0 hx1
          go_wp2_with fail
          go_quiet (fail)
          go_wp2_with fail
          go_ret
          exact ⟨by rw [hf.out]; rfl, kw.drewN _⟩
        · by_cases hx1 : 1024 ≤ x
          · have d0 : decide (x < 0) = false := decide_eq_false (hx0)
            have d1 : decide (1024 ≤ x) = true := decide_eq_true (hx1)
            have hf := hno.out (fun h => by have h1 := HD.out.1 h; omega)
            replace hf : Hid _ := hf
            clear hx0 hx1
            go_wp2_with fail
            go_quiet (fail)
            go_wp2_with fail
            go_ret
            exact ⟨by rw [hf.out]; rfl, kw.drewN _⟩
          · by_cases hxy : x ≤ y
            · have d0 : decide (x < 0) = false := decide_eq_false (hx0)
              have d1 : decide (1024 ≤ x) = false := decide_eq_false (hx1)
              have d2 : decide (x ≤ y) = true := decide_eq_true (hxy)
              have hf := hno.out (fun h => by have h1 := HD.out.1 h; omega)
              replace hf : Hid _ := hf
              clear hx0 hx1 hxy
              go_wp2_with fail
              go_quiet (fail)
              go_wp2_with fail
              go_ret
              exact ⟨by rw [hf.out]; rfl, kw.drewN _⟩
            · have d0 : decide (x < 0) = false := decide_eq_false (hx0)
              have d1 : decide (1024 ≤ x) = false := decide_eq_false (hx1)
              have d2 : decide (x ≤ y) = false := decide_eq_false (hxy)
              have hg := hn.out (HD.out.2 (by omega))
              replace hg : Hid _ := hg
              clear hx0 hx1 hxy
              go_wp2_with fail
              go_quiet (fail)
              go_wp2_with fail
              go_roundw
              case rel => exact ⟨k + 1, by have := HK.out; omega, by go_num, hg, kw.drewN _⟩
              case measure => have := HK.out; simp [intOf]; omega
      · have e0 : k = 0 := by omega
        subst e0
        have hk0c : decide ((0 : Int) < ((0 : Nat) : Int)) = false := rfl
        have HD : Hid (cOk l 0 ↔ (0 ≤ l.getD 0 0 ∧ l.getD 0 0 < 1024)) := ⟨fun h => ⟨h.1, h.2.1⟩, fun h => ⟨h.1, h.2, fun h0 => absurd h0 (by omega)⟩⟩
        clear hkl hk0
        generalize l.getD 0 0 = x at hc HD
        rw [Nat.add_zero] at hc
        by_cases hx0 : x < 0
        · have hx1 : True := trivial
          have d0 : decide (x < 0) = true := decide_eq_true (hx0)
          have hf := hno.out (fun h => by have h1 := HD.out.1 h; omega)
          replace hf : Hid _ := hf
          clear hx0 hx1
          go_wp2_with fail
          go_quiet (fail)
          go_wp2_with fail
          go_ret
          exact ⟨by rw [hf.out]; rfl, kw.drewN _⟩
        · by_cases hx1 : 1024 ≤ x
          · have d0 : decide (x < 0) = false := decide_eq_false (hx0)
            have d1 : decide (1024 ≤ x) = true := decide_eq_true (hx1)
            have hf := hno.out (fun h => by have h1 := HD.out.1 h; omega)
            replace hf : Hid _ := hf
            clear hx0 hx1
            go_wp2_with fail
            go_quiet (fail)
            go_wp2_with fail
            go_ret
            exact ⟨by rw [hf.out]; rfl, kw.drewN _⟩
          · have d0 : decide (x < 0) = false := decide_eq_false (hx0)
            have d1 : decide (1024 ≤ x) = false := decide_eq_false (hx1)
            have hg := hn.out (HD.out.2 (by omega))
            replace hg : Hid _ := hg
            clear hx0 hx1
            go_wp2_with fail
            go_quiet (fail)
            go_wp2_with fail
            go_roundw
            case rel => exact ⟨1, by have := HK.out; omega, by go_num, hg, kw.drewN _⟩
            case measure => have := HK.out; simp [intOf]; omega
    · have hklc : ¬ (k : Int) < (l.length : Int) := by omega
      have hR : Hid (catsB l = decide (0 < l.length)) := by
        show _ = _
        rw [Bool.eq_iff_iff, decide_eq_true_eq, catsB_iff]
        have := hinv.out
        exact ⟨fun h => by have := h.1; omega, fun h => ⟨by omega, fun i hi => this i (by omega)⟩⟩
      clear hkl
      go_wp2_with fail
      go_ret
      exact ⟨ret_bool hR.out.symm, kw⟩
end Go.Proofs.YtodegcobkngmlaaGreatDoor
