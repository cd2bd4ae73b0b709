import Derived.Test.YtinjikoocegooaaGreatDoorProg
import Derived.Test.YtinjikoocegooaaGreatDoorH1
import Derived.WalkKit
import Derived.WalkSpells
import Derived.WalkLawsBesides
import Derived.Deep.Draws
import Derived.Deep.QuietTactic
import Derived.BigQuiet
import Derived.Laws.Externs
import Derived.Laws.CopyOwn
import Derived.Shelf.Abstract
import Derived.Deep.RegionLaw
import Derived.BigRegion
import Derived.Deep.RegionHeld3
import Derived.Test.YtinjikoocegooaaGreatDoorYT5
set_option linter.unusedVariables false
set_option linter.unusedSimpArgs false
namespace Go.Proofs.YtinjikoocegooaaGreatDoor
open Go.RowKit Go.Shelf
abbrev cOk (l : List Int) (i : Nat) : Prop := 0 ≤ l.getD i 0 ∧ l.getD i 0 < 1024 ∧ (0 < i → l.getD (i - 1) 0 < l.getD i 0)
set_option maxRecDepth 100000 in
theorem ruleCats_any (a : Option Addr) (c : Nat) (l : List Int) (w : World) (hl : l.length ≤ 17592186044416) (hr : RdI w a l) :
    Calls Tryz.prog 111 #[.slice a l.length c] w fun e w' => e = .returned (.bool (catsB l)) ∧ w' = w := by
  go_enter Tryz.func111, Tryz.ntmps111
  go_wp2_with fail
  go_loop [7] (fun i => ∃ k : Nat, k ≤ l.length ∧ i = .int .i64 k ∧ Hid (∀ i, i < k → cOk l i)) (fun i => l.length - (intOf i).toNat)
  case atStart => exact ⟨0, by omega, rfl, by intro i hi; omega⟩
  case round =>
    obtain ⟨k, hk, rfl, hinv⟩ := hrel
    by_cases hkl : k < l.length
    · have hklc : (k : Int) < (l.length : Int) := by omega
      have HK : Hid (k < l.length) := hkl
      obtain ⟨b, o, rfl, hc⟩ := hr k hkl
      have hno : Hid (¬ cOk l k → catsB l = false) := fun h => catsB_no (fun hc => h (hc.2 k hkl))
      have hn : Hid (cOk l k → ∀ i, i < k + 1 → cOk l i) := by
        intro h i hi
        by_cases e : i = k
        · rw [e]; exact h
        · exact hinv.out i (by omega)
      by_cases hk0 : 0 < k
      · have hk0c : decide ((0 : Int) < (k : Int)) = true := decide_eq_true (by omega)
        obtain ⟨b', o', e', hc'⟩ := hr (k - 1) (by omega)
        simp only [Option.some.injEq, Addr.mk.injEq, and_true] at e'
        obtain ⟨rfl, rfl⟩ := e'
        have hsub : (k : Int) - 1 = ((k - 1 : Nat) : Int) := by omega
        have HD : Hid (cOk l k ↔ (0 ≤ l.getD k 0 ∧ l.getD k 0 ≤ 1023) ∧ l.getD (k - 1) 0 < l.getD k 0) := ⟨fun h => ⟨⟨h.1, by have := h.2.1; omega⟩, h.2.2 hk0⟩, fun h => ⟨h.1.1, by have := h.1.2; omega, fun _ => h.2⟩⟩
        clear hkl hk0
        generalize l.getD k 0 = x at hc HD
        generalize l.getD (k - 1) 0 = y at hc' HD
        cases hw : winB x 0 1023 with
        | false =>
          have hf := hno.out (fun h => by have := (HD.out.1 h).1; unfold winB at hw; rw [decide_eq_true this.1, decide_eq_true this.2] at hw; cases hw)
          replace hf : Hid _ := hf
          go_wp2_with (go_at_call 58; refine (within_any _ _ _ _).mono ?_; rintro e w0 ⟨rfl, rfl⟩; rw [hw])
          go_ret
          exact ⟨by rw [hf.out]; rfl, rfl⟩
        | true =>
          by_cases hxy : x ≤ y
          · have hxyc : decide (x ≤ y) = true := decide_eq_true hxy
            have hf := hno.out (fun h => by have := (HD.out.1 h).2; omega)
            replace hf : Hid _ := hf
            clear hxy
            go_wp2_with (go_at_call 58; refine (within_any _ _ _ _).mono ?_; rintro e w0 ⟨rfl, rfl⟩; rw [hw])
            go_ret
            exact ⟨by rw [hf.out]; rfl, rfl⟩
          · have hxyc : decide (x ≤ y) = false := decide_eq_false hxy
            have hg := hn.out (HD.out.2 ⟨by unfold winB at hw; simpa using hw, by omega⟩)
            replace hg : Hid _ := hg
            clear hxy
            go_wp2_with (go_at_call 58; refine (within_any _ _ _ _).mono ?_; rintro e w0 ⟨rfl, rfl⟩; rw [hw])
            go_round
            case rel => exact ⟨k + 1, by have := HK.out; omega, by go_num, hg⟩
            case measure => have := HK.out; simp [intOf]; omega
      · have e0 : k = 0 := by omega
        subst e0
        have HD : Hid (cOk l 0 ↔ (0 ≤ l.getD 0 0 ∧ l.getD 0 0 ≤ 1023)) := ⟨fun h => ⟨h.1, by have := h.2.1; omega⟩, fun h => ⟨h.1, by have := h.2; omega, fun h0 => absurd h0 (by omega)⟩⟩
        clear hkl hk0
        generalize l.getD 0 0 = x at hc HD
        rw [Nat.add_zero] at hc
        cases hw : winB x 0 1023 with
        | false =>
          have hf := hno.out (fun h => by have := (HD.out.1 h); unfold winB at hw; rw [decide_eq_true this.1, decide_eq_true this.2] at hw; cases hw)
          replace hf : Hid _ := hf
          go_wp2_with (go_at_call 58; refine (within_any _ _ _ _).mono ?_; rintro e w0 ⟨rfl, rfl⟩; rw [hw])
          go_ret
          exact ⟨by rw [hf.out]; rfl, rfl⟩
        | true =>
          have hg := hn.out (HD.out.2 (by unfold winB at hw; simpa using hw))
          replace hg : Hid _ := hg
          go_wp2_with (go_at_call 58; refine (within_any _ _ _ _).mono ?_; rintro e w0 ⟨rfl, rfl⟩; rw [hw])
          go_round
          case rel => exact ⟨1, by have := HK.out; omega, by go_num, hg⟩
          case measure => have := HK.out; simp [intOf]; omega
    · have hklc : ¬ (k : Int) < (l.length : Int) := by omega
      have hR : Hid (catsB l = decide (0 < l.length)) := by
        show _ = _
        rw [Bool.eq_iff_iff, decide_eq_true_eq, catsB_iff]
        have := hinv.out
        exact ⟨fun h => by have := h.1; omega, fun h => ⟨by omega, fun i hi => this i (by omega)⟩⟩
      clear hkl
      go_wp2_with fail
      go_ret
      exact ⟨ret_bool hR.out.symm, rfl⟩
end Go.Proofs.YtinjikoocegooaaGreatDoor
set_option linter.unusedVariables false
set_option linter.unusedSimpArgs false
namespace Go.Proofs.YtinjikoocegooaaGreatDoor
open Go.RowKit Go.Shelf
attribute [local go_sem] run_store_func
abbrev nvs (n : Nd) (ca : Option Addr) (cap : Nat) : Array Value := #[.int .u8 n.kd, .int .i64 n.vl, .int .i64 n.ft, .float .f64 n.th, .slice ca n.cs.length cap, .int .u8 n.ms, .int .i64 n.lf, .int .i64 n.rt]
theorem cells8 {T : Nat} {w : World} {g : Nat} {x0 x1 x2 x3 x4 x5 x6 x7 : Value} (h : w.heap[g]? = some (.cells #[x0, x1, x2, x3, x4, x5, x6, x7] T (0, 0))) : w.cell? ⟨g, 0, none⟩ = some x0 ∧ w.cell? ⟨g, 1, none⟩ = some x1 ∧ w.cell? ⟨g, 2, none⟩ = some x2 ∧ w.cell? ⟨g, 3, none⟩ = some x3 ∧ w.cell? ⟨g, 4, none⟩ = some x4 ∧ w.cell? ⟨g, 5, none⟩ = some x5 ∧ w.cell? ⟨g, 6, none⟩ = some x6 ∧ w.cell? ⟨g, 7, none⟩ = some x7 :=
  ⟨by rw [cell_of_row _ _ 0 _ T (0, 0) h]; rfl, by rw [cell_of_row _ _ 1 _ T (0, 0) h]; rfl, by rw [cell_of_row _ _ 2 _ T (0, 0) h]; rfl, by rw [cell_of_row _ _ 3 _ T (0, 0) h]; rfl, by rw [cell_of_row _ _ 4 _ T (0, 0) h]; rfl, by rw [cell_of_row _ _ 5 _ T (0, 0) h]; rfl, by rw [cell_of_row _ _ 6 _ T (0, 0) h]; rfl, by rw [cell_of_row _ _ 7 _ T (0, 0) h]; rfl⟩
def kdB (n : Nd) (k : Nat) : Bool := n.kd == k
def innB (n : Nd) : Bool := kdB n 2 || kdB n 3
theorem kd_int (n : Nd) (k : Nat) : ((n.kd : Int) == (k : Int)) = kdB n k := by unfold kdB; rw [Bool.eq_iff_iff]; simp only [beq_iff_eq]; omega
theorem kd_ne (n : Nd) (k : Nat) : ((n.kd : Int) != (k : Int)) = !kdB n k := by rw [bne, kd_int]
def msB (n : Nd) (k : Nat) : Bool := n.ms == k
theorem ms_int (n : Nd) (k : Nat) : ((n.ms : Int) == (k : Int)) = msB n k := by unfold msB; rw [Bool.eq_iff_iff]; simp only [beq_iff_eq]; omega
theorem ms_ne (n : Nd) (k : Nat) : ((n.ms : Int) != (k : Int)) = !msB n k := by rw [bne, ms_int]
theorem ruleInner_any (n : Nd) (ca : Option Addr) (cap : Nat) (w : World) : Calls Tryz.prog 105 #[.agg (nvs n ca cap)] w fun e w' => e = .returned (.bool (innB n)) ∧ Keep w w' := by
  obtain ⟨w1, hw1, k1, t1, s1⟩ := boxed w (nvs n ca cap) 81
  obtain ⟨c0, -⟩ := cells8 t1
  have e2 : ((n.kd : Int) == 2) = kdB n 2 := kd_int n 2
  have e3 : ((n.kd : Int) == 3) = kdB n 3 := kd_int n 3
  have H : Hid (innB n = (kdB n 2 || kdB n 3)) := rfl
  cases h2 : kdB n 2 with
  | true =>
    rw [h2] at e2 H
    clear h2
    go_enter Tryz.func105, Tryz.ntmps105
    go_wp2_with (rw [hw1])
    go_ret
    exact ⟨by rw [H.out]; rfl, k1⟩
  | false =>
    rw [h2] at e2 H
    clear h2
    go_enter Tryz.func105, Tryz.ntmps105
    go_wp2_with (rw [hw1])
    go_ret
    exact ⟨by rw [H.out, Bool.false_or]; rfl, k1⟩
def vlB (n : Nd) : Bool := n.vl == 0
def csB (n : Nd) : Bool := (n.cs.length : Int) == 0
def thB (n : Nd) : Bool := (n.th : Int) == 0
def ftB0 (n : Nd) : Bool := n.ft == 0
def lfB (n : Nd) : Bool := n.lf == 0
def rtB (n : Nd) : Bool := n.rt == 0
/-- The fields that a node's kind does not use are zero. -/
def restB (n : Nd) : Bool := if kdB n 2 = true then vlB n && csB n else if kdB n 3 = true then vlB n && thB n else thB n && csB n && ftB0 n && msB n 0 && lfB n && rtB n
theorem f64b (x : Nat) (w : World) : (callFunc 116 #[.float .f64 x]).run Tryz.prog w = .ok (.value (.int .u64 (x : Nat))) w := f64bits x w
set_option maxRecDepth 100000 in
set_option maxHeartbeats 1000000 in
theorem restZero_any (n : Nd) (ca : Option Addr) (cap : Nat) (w : World) : Calls Tryz.prog 107 #[.agg (nvs n ca cap)] w fun e w' => e = .returned (.bool (restB n)) ∧ Keep w w' := by
  obtain ⟨w1, hw1, k1, t1, s1⟩ := boxed w (nvs n ca cap) 81
  obtain ⟨c0, c1, c2, c3, c4, c5, c6, c7⟩ := cells8 t1
  have e2 : ((n.kd : Int) == 2) = kdB n 2 := kd_int n 2
  have e3 : ((n.kd : Int) == 3) = kdB n 3 := kd_int n 3
  have e5 : ((n.ms : Int) == 0) = msB n 0 := ms_int n 0
  have ev : (n.vl == 0) = vlB n := rfl
  have ec : ((n.cs.length : Int) == 0) = csB n := rfl
  have et : ((n.th : Int) == 0) = thB n := rfl
  have ef : (n.ft == 0) = ftB0 n := rfl
  have el : (n.lf == 0) = lfB n := rfl
  have er : (n.rt == 0) = rtB n := rfl
  have fb := f64b n.th
  have H : Hid (restB n = if kdB n 2 = true then vlB n && csB n else if kdB n 3 = true then vlB n && thB n else thB n && csB n && ftB0 n && msB n 0 && lfB n && rtB n) := rfl
  generalize restB n = r at H ⊢
  generalize kdB n 2 = b2 at e2 H
  generalize kdB n 3 = b3 at e3 H
  generalize msB n 0 = b5 at e5 H
  generalize vlB n = bv at ev H
  generalize csB n = bc at ec H
  generalize thB n = bt at et H
  generalize ftB0 n = bf at ef H
  generalize lfB n = bl at el H
  generalize rtB n = br at er H
  cases b2 with
  | true =>
    cases bv <;> (go_enter Tryz.func107, Tryz.ntmps107; go_wp2_with (rw [hw1]); go_ret; exact ⟨by rw [H.out]; rfl, k1⟩)
  | false =>
    cases b3 with
    | true => cases bv <;> (go_enter Tryz.func107, Tryz.ntmps107; go_wp2_with (rw [hw1]); go_ret; exact ⟨by rw [H.out]; rfl, k1⟩)
    | false =>
      cases bt with
      | false => (go_enter Tryz.func107, Tryz.ntmps107; go_wp2_with (rw [hw1]); go_ret; exact ⟨by rw [H.out]; rfl, k1⟩)
      | true =>
        cases bc with
        | false => (go_enter Tryz.func107, Tryz.ntmps107; go_wp2_with (rw [hw1]); go_ret; exact ⟨by rw [H.out]; rfl, k1⟩)
        | true =>
          cases bf with
          | false => (go_enter Tryz.func107, Tryz.ntmps107; go_wp2_with (rw [hw1]); go_ret; exact ⟨by rw [H.out]; rfl, k1⟩)
          | true =>
            cases b5 with
            | false => (go_enter Tryz.func107, Tryz.ntmps107; go_wp2_with (rw [hw1]); go_ret; exact ⟨by rw [H.out]; rfl, k1⟩)
            | true =>
              cases bl with
              | false => (go_enter Tryz.func107, Tryz.ntmps107; go_wp2_with (rw [hw1]); go_ret; exact ⟨by rw [H.out]; rfl, k1⟩)
              | true =>
                (go_enter Tryz.func107, Tryz.ntmps107; go_wp2_with (rw [hw1]); go_ret; exact ⟨by rw [H.out]; rfl, k1⟩)
end Go.Proofs.YtinjikoocegooaaGreatDoor
set_option linter.unusedVariables false
set_option linter.unusedSimpArgs false
namespace Go.Proofs.YtinjikoocegooaaGreatDoor
open Go.RowKit Go.Shelf
/-- A node in a box, and a box that points to it. -/
structure NB (w : World) (p g : Nat) (n : Nd) (ca : Option Addr) (cap : Nat) : Prop where
  bp : w.heap[p]? = some (.cells #[.pointer (some ⟨g, 0, none⟩)] 110 (0, 0))
  bn : w.heap[g]? = some (.cells (nvs n ca cap) 81 (0, 0))
  rd : RdI w ca n.cs
  fl : n.cs.length ≤ 17592186044416
theorem NB.keep {w w' : World} {p g : Nat} {n : Nd} {ca : Option Addr} {cap : Nat} (h : NB w p g n ca cap) (k : Keep w w') : NB w' p g n ca cap := ⟨k.at h.bp, k.at h.bn, h.rd.keep k, h.fl⟩
def q13 (n : Nd) : Bool := kdB n 1 || innB n
def q16 (n : Nd) : Bool := !kdB n 2 || !nanB n.th
def q17 (n : Nd) : Bool := !kdB n 3 || catsB n.cs
def q18 (n : Nd) : Bool := (!innB n || msB n 1) || msB n 2
set_option maxRecDepth 100000 in
theorem nr1_ans {w : World} {p g : Nat} {n : Nd} {ca : Option Addr} {cap : Nat} (h : NB w p g n ca cap) : Ans w (13, 104, #[pv p]) (q13 n) := by
  refine ⟨fun wx => by kernel_rfl, fun wx k => ?_⟩
  obtain ⟨c0, -⟩ := cells1 (k.at h.bp)
  obtain ⟨d0, d1, d2, d3, d4, d5, d6, d7⟩ := cells8 (k.at h.bn)
  have hI := ruleInner_any n ca cap wx
  have e1 : ((n.kd : Int) == 1) = kdB n 1 := kd_int n 1
  have H : Hid (q13 n = (kdB n 1 || innB n)) := rfl
  generalize q13 n = r at H ⊢
  generalize innB n = bi at hI H
  show Calls Tryz.prog 104 #[.pointer (some ⟨p, 0, none⟩)] wx _
  cases h1 : kdB n 1 with
  | true =>
    rw [h1] at e1 H
    clear h1
    go_enter Tryz.func104, Tryz.ntmps104
    go_wp2_with fail
    go_ret
    exact ⟨by rw [H.out]; rfl, Keep.refl _⟩
  | false =>
    rw [h1] at e1 H
    clear h1
    go_enter Tryz.func104, Tryz.ntmps104
    go_wp2_with (go_at_call 105; refine hI.mono ?_; rintro e w0 ⟨rfl, k0⟩)
    go_ret
    exact ⟨by rw [H.out, Bool.false_or]; rfl, k0⟩
set_option maxRecDepth 100000 in
theorem nr2_ans {w : World} {p g : Nat} {n : Nd} {ca : Option Addr} {cap : Nat} (h : NB w p g n ca cap) : Ans w (14, 106, #[pv p]) (restB n) := by
  refine ⟨fun wx => by kernel_rfl, fun wx k => ?_⟩
  obtain ⟨c0, -⟩ := cells1 (k.at h.bp)
  obtain ⟨d0, d1, d2, d3, d4, d5, d6, d7⟩ := cells8 (k.at h.bn)
  have hI := restZero_any n ca cap wx
  generalize restB n = r at hI ⊢
  show Calls Tryz.prog 106 #[.pointer (some ⟨p, 0, none⟩)] wx _
  go_enter Tryz.func106, Tryz.ntmps106
  go_wp2_with (go_at_call 107; refine hI.mono ?_; rintro e w0 ⟨rfl, k0⟩)
  go_ret
  exact ⟨rfl, k0⟩
set_option maxRecDepth 100000 in
theorem nr4_ans {w : World} {p g : Nat} {n : Nd} {ca : Option Addr} {cap : Nat} (h : NB w p g n ca cap) : Ans w (16, 109, #[pv p]) (q16 n) := by
  refine ⟨fun wx => by kernel_rfl, fun wx k => ?_⟩
  obtain ⟨c0, -⟩ := cells1 (k.at h.bp)
  obtain ⟨d0, d1, d2, d3, d4, d5, d6, d7⟩ := cells8 (k.at h.bn)
  have hI := IsNaN_any n.th wx
  have e1 : ((n.kd : Int) != 2) = !kdB n 2 := kd_ne n 2
  have H : Hid (q16 n = (!kdB n 2 || !nanB n.th)) := rfl
  generalize q16 n = r at H ⊢
  generalize nanB n.th = bi at hI H
  show Calls Tryz.prog 109 #[.pointer (some ⟨p, 0, none⟩)] wx _
  cases h1 : kdB n 2 with
  | false =>
    rw [h1] at e1 H
    clear h1
    go_enter Tryz.func109, Tryz.ntmps109
    go_wp2_with fail
    go_ret
    exact ⟨by rw [H.out]; rfl, Keep.refl _⟩
  | true =>
    rw [h1] at e1 H
    clear h1
    go_enter Tryz.func109, Tryz.ntmps109
    go_wp2_with (go_at_call 94; refine hI.mono ?_; rintro e w0 ⟨rfl, rfl⟩)
    go_ret
    exact ⟨by rw [H.out]; rfl, Keep.refl _⟩
set_option maxRecDepth 100000 in
theorem nr5_ans {w : World} {p g : Nat} {n : Nd} {ca : Option Addr} {cap : Nat} (h : NB w p g n ca cap) : Ans w (17, 110, #[pv p]) (q17 n) := by
  refine ⟨fun wx => by kernel_rfl, fun wx k => ?_⟩
  obtain ⟨c0, -⟩ := cells1 (k.at h.bp)
  obtain ⟨d0, d1, d2, d3, d4, d5, d6, d7⟩ := cells8 (k.at h.bn)
  have hI := ruleCats_any ca cap n.cs wx h.fl (h.rd.keep k)
  have e1 : ((n.kd : Int) != 3) = !kdB n 3 := kd_ne n 3
  have H : Hid (q17 n = (!kdB n 3 || catsB n.cs)) := rfl
  generalize q17 n = r at H ⊢
  generalize catsB n.cs = bi at hI H
  show Calls Tryz.prog 110 #[.pointer (some ⟨p, 0, none⟩)] wx _
  cases h1 : kdB n 3 with
  | false =>
    rw [h1] at e1 H
    clear h1
    go_enter Tryz.func110, Tryz.ntmps110
    go_wp2_with fail
    go_ret
    exact ⟨by rw [H.out]; rfl, Keep.refl _⟩
  | true =>
    rw [h1] at e1 H
    clear h1
    go_enter Tryz.func110, Tryz.ntmps110
    go_wp2_with (go_at_call 111; refine hI.mono ?_; rintro e w0 ⟨rfl, rfl⟩)
    go_ret
    exact ⟨by rw [H.out]; rfl, Keep.refl _⟩
set_option maxRecDepth 100000 in
theorem nr6_ans {w : World} {p g : Nat} {n : Nd} {ca : Option Addr} {cap : Nat} (h : NB w p g n ca cap) : Ans w (18, 112, #[pv p]) (q18 n) := by
  refine ⟨fun wx => by kernel_rfl, fun wx k => ?_⟩
  have hI := ruleInner_any n ca cap wx
  have e1 : ((n.ms : Int) == 1) = msB n 1 := ms_int n 1
  have e2 : ((n.ms : Int) == 2) = msB n 2 := ms_int n 2
  have H : Hid (q18 n = ((!innB n || msB n 1) || msB n 2)) := rfl
  generalize q18 n = r at H ⊢
  generalize innB n = bi at hI H
  generalize msB n 1 = b1 at e1 H
  generalize msB n 2 = b2 at e2 H
  obtain ⟨c0, -⟩ := cells1 (k.at h.bp)
  obtain ⟨d0, d1, d2, d3, d4, d5, d6, d7⟩ := cells8 (k.at h.bn)
  show Calls Tryz.prog 112 #[.pointer (some ⟨p, 0, none⟩)] wx _
  cases bi with
  | false =>
    go_enter Tryz.func112, Tryz.ntmps112
    go_wp2_with (go_at_call 105; refine hI.mono ?_; rintro e w0 ⟨rfl, k0⟩)
    go_ret
    exact ⟨by rw [H.out]; rfl, k0⟩
  | true =>
    cases b1 with
    | true =>
      go_enter Tryz.func112, Tryz.ntmps112
      go_wp2_with (go_at_call 105; refine hI.mono ?_; rintro e w0 ⟨rfl, k0⟩; have y0 := k0.cell c0; have y5 := k0.cell d5)
      go_ret
      exact ⟨by rw [H.out]; rfl, k0⟩
    | false =>
      go_enter Tryz.func112, Tryz.ntmps112
      go_wp2_with (go_at_call 105; refine hI.mono ?_; rintro e w0 ⟨rfl, k0⟩; have y0 := k0.cell c0; have y5 := k0.cell d5)
      go_ret
      exact ⟨by rw [H.out]; rfl, k0⟩
end Go.Proofs.YtinjikoocegooaaGreatDoor
set_option linter.unusedVariables false
set_option linter.unusedSimpArgs false
namespace Go.Proofs.YtinjikoocegooaaGreatDoor
open Go.RowKit Go.Shelf
/-- A region in whatever order whose operations read alone, its calls keeping what was there. -/
theorem region_keep {id : Nat} {Q : Exit → Act → World → Prop} {a : Act} {w w2 : World} {l : List Oper} (k : Keep w2 w) (hm : Tryz.prog.follows .mixedOrders = true) (hB : Region.lexB .any l.toArray = true)
    (h : wpQuiet Tryz.prog l.toArray (Keep w2) (fun a' => ∀ w', Keep w2 w' → Q .normal a' w') l a) : (Code.region id l.toArray true).wp Tryz.prog Q a w :=
  wp_region_quiet (C := Keep w2) hm hB k.drew (by simpa using h)
def q15 (n : Nd) (F : Int) : Bool := !innB n || winB n.ft 0 (F - 1)
def q19 (n : Nd) (M : Int) : Bool := !innB n || (winB n.lf 1 (M - 1) && winB n.rt 1 (M - 1))
set_option maxRecDepth 100000 in
set_option maxHeartbeats 4000000 in
theorem nr3_f {w : World} {p g f : Nat} {n : Nd} {ca : Option Addr} {cap : Nat} {F : Int} (h : NB w p g n ca cap) (hF : w.heap[f]? = some (.cells #[.int .i64 F] 3 (0, 0))) (hi : innB n = false) :
    Calls Tryz.prog 108 #[.pointer (some ⟨p, 0, none⟩), .pointer (some ⟨f, 0, none⟩)] w fun e w' => e = .returned (.bool true) ∧ Keep w w' := by
  have hI := ruleInner_any n ca cap
  rw [hi] at hI
  clear hi
  obtain ⟨c0, -⟩ := cells1 h.bp
  obtain ⟨cf, -⟩ := cells1 hF
  obtain ⟨d0, d1, d2, d3, d4, d5, d6, d7⟩ := cells8 h.bn
  clear h hF
  go_enter Tryz.func108, Tryz.ntmps108
  go_wp2_with fail
  refine region_keep (Keep.refl w) (by kernel_rfl) (by kernel_rfl) ?_
  repeat
    with_reducible refine wpQuiet_step ?_
    intro K hK
    go_simp
    first
      | (with_reducible refine hK _ ?_; clear hK K)
      | (with_reducible refine (if_neg ?_).mpr (hK _ ?_)
         · decide
         clear hK K)
      | (apply Exists.intro
         with_reducible refine ⟨fun wx hC => ?_, hK _ ?_⟩
         · first
             | with_reducible rfl
             | with_reducible exact (hI wx).mono fun e w'' h => ⟨h.1, hC.trans h.2⟩
             | (have y0 := hC.cell c0; have y1 := hC.cell d0; have y2 := hC.cell d1; have y3 := hC.cell d2; have y4 := hC.cell d3; have y5 := hC.cell d4; have y6 := hC.cell d5; have y7 := hC.cell d6; have y8 := hC.cell d7; go_simp; with_reducible rfl)
         clear hK K)
  with_reducible refine wpQuiet_nil ?_
  intro w3 k3
  go_simp
  go_wp2_with fail
  go_ret
  exact ⟨rfl, k3⟩
set_option maxRecDepth 100000 in
set_option maxHeartbeats 4000000 in
theorem nr3_t {w : World} {p g f : Nat} {n : Nd} {ca : Option Addr} {cap : Nat} {F : Int} (h : NB w p g n ca cap) (hF : w.heap[f]? = some (.cells #[.int .i64 F] 3 (0, 0))) (hi : innB n = true) (hb : 0 ≤ F ∧ F ≤ 4611686018427387904) :
    Calls Tryz.prog 108 #[.pointer (some ⟨p, 0, none⟩), .pointer (some ⟨f, 0, none⟩)] w fun e w' => e = .returned (.bool (winB n.ft 0 (F - 1))) ∧ Keep w w' := by
  have hI := ruleInner_any n ca cap
  rw [hi] at hI
  clear hi
  have hwr : IntKind.i64.wrap (F - 1) = F - 1 := by rw [IntWalk.i64_left]; exact IntWalk.wrap64_in _ (by omega)
  have hW := within_any n.ft 0 (F - 1)
  generalize winB n.ft 0 (F - 1) = bw at hW ⊢
  clear hb
  obtain ⟨c0, -⟩ := cells1 h.bp
  obtain ⟨cf, -⟩ := cells1 hF
  obtain ⟨d0, d1, d2, d3, d4, d5, d6, d7⟩ := cells8 h.bn
  clear h hF
  go_enter Tryz.func108, Tryz.ntmps108
  go_wp2_with fail
  refine region_keep (Keep.refl w) (by kernel_rfl) (by kernel_rfl) ?_
  repeat
    with_reducible refine wpQuiet_step ?_
    intro K hK
    go_simp
    first
      | (with_reducible refine hK _ ?_; clear hK K)
      | (with_reducible refine (if_neg ?_).mpr (hK _ ?_)
         · decide
         clear hK K)
      | (apply Exists.intro
         with_reducible refine ⟨fun wx hC => ?_, hK _ ?_⟩
         · first
             | with_reducible rfl
             | with_reducible exact (hI wx).mono fun e w'' h => ⟨h.1, hC.trans h.2⟩
             | with_reducible exact (hW wx).mono fun e w'' h => ⟨h.1, by rw [h.2]; exact hC⟩
             | (have y0 := hC.cell c0; have yf := hC.cell cf; have y1 := hC.cell d0; have y2 := hC.cell d1; have y3 := hC.cell d2; have y4 := hC.cell d3; have y5 := hC.cell d4; have y6 := hC.cell d5; have y7 := hC.cell d6; have y8 := hC.cell d7; go_simp; with_reducible rfl)
         clear hK K)
  with_reducible refine wpQuiet_nil ?_
  intro w3 k3
  go_simp
  go_wp2_with fail
  go_ret
  exact ⟨rfl, k3⟩
set_option maxRecDepth 100000 in
set_option maxHeartbeats 4000000 in
theorem nr7_f {w : World} {p g f : Nat} {n : Nd} {ca : Option Addr} {cap : Nat} {F : Int} (h : NB w p g n ca cap) (hF : w.heap[f]? = some (.cells #[.int .i64 F] 3 (0, 0))) (hi : innB n = false) :
    Calls Tryz.prog 113 #[.pointer (some ⟨p, 0, none⟩), .pointer (some ⟨f, 0, none⟩)] w fun e w' => e = .returned (.bool true) ∧ Keep w w' := by
  have hI := ruleInner_any n ca cap
  rw [hi] at hI
  clear hi
  obtain ⟨c0, -⟩ := cells1 h.bp
  obtain ⟨cf, -⟩ := cells1 hF
  obtain ⟨d0, d1, d2, d3, d4, d5, d6, d7⟩ := cells8 h.bn
  clear h hF
  go_enter Tryz.func113, Tryz.ntmps113
  go_wp2_with fail
  refine region_keep (Keep.refl w) (by kernel_rfl) (by kernel_rfl) ?_
  repeat
    with_reducible refine wpQuiet_step ?_
    intro K hK
    go_simp
    first
      | (with_reducible refine hK _ ?_; clear hK K)
      | (with_reducible refine (if_neg ?_).mpr (hK _ ?_)
         · decide
         clear hK K)
      | (apply Exists.intro
         with_reducible refine ⟨fun wx hC => ?_, hK _ ?_⟩
         · first
             | with_reducible rfl
             | with_reducible exact (hI wx).mono fun e w'' h => ⟨h.1, hC.trans h.2⟩
             | (have y0 := hC.cell c0; have yf := hC.cell cf; have y1 := hC.cell d0; have y2 := hC.cell d1; have y3 := hC.cell d2; have y4 := hC.cell d3; have y5 := hC.cell d4; have y6 := hC.cell d5; have y7 := hC.cell d6; have y8 := hC.cell d7; go_simp; with_reducible rfl)
         clear hK K)
  with_reducible refine wpQuiet_nil ?_
  intro w3 k3
  go_simp
  go_wp2_with fail
  go_ret
  exact ⟨rfl, k3⟩
set_option maxRecDepth 100000 in
set_option maxHeartbeats 4000000 in
theorem nr7_a {w : World} {p g f : Nat} {n : Nd} {ca : Option Addr} {cap : Nat} {F : Int} (h : NB w p g n ca cap) (hF : w.heap[f]? = some (.cells #[.int .i64 F] 3 (0, 0))) (hi : innB n = true) (hb : 0 ≤ F ∧ F ≤ 4611686018427387904) (hl : winB n.lf 1 (F - 1) = false) :
    Calls Tryz.prog 113 #[.pointer (some ⟨p, 0, none⟩), .pointer (some ⟨f, 0, none⟩)] w fun e w' => e = .returned (.bool false) ∧ Keep w w' := by
  have hI := ruleInner_any n ca cap
  rw [hi] at hI
  clear hi
  have hwr : IntKind.i64.wrap (F - 1) = F - 1 := by rw [IntWalk.i64_left]; exact IntWalk.wrap64_in _ (by omega)
  have hW := within_any n.lf 1 (F - 1)
  rw [hl] at hW
  clear hb hl
  obtain ⟨c0, -⟩ := cells1 h.bp
  obtain ⟨cf, -⟩ := cells1 hF
  obtain ⟨d0, d1, d2, d3, d4, d5, d6, d7⟩ := cells8 h.bn
  clear h hF
  go_enter Tryz.func113, Tryz.ntmps113
  go_wp2_with fail
  refine region_keep (Keep.refl w) (by kernel_rfl) (by kernel_rfl) ?_
  repeat
    with_reducible refine wpQuiet_step ?_
    intro K hK
    go_simp
    first
      | (with_reducible refine hK _ ?_; clear hK K)
      | (with_reducible refine (if_neg ?_).mpr (hK _ ?_)
         · decide
         clear hK K)
      | (apply Exists.intro
         with_reducible refine ⟨fun wx hC => ?_, hK _ ?_⟩
         · first
             | with_reducible rfl
             | with_reducible exact (hI wx).mono fun e w'' h => ⟨h.1, hC.trans h.2⟩
             | with_reducible exact (hW wx).mono fun e w'' h => ⟨h.1, by rw [h.2]; exact hC⟩
             | (have y0 := hC.cell c0; have yf := hC.cell cf; have y1 := hC.cell d0; have y2 := hC.cell d1; have y3 := hC.cell d2; have y4 := hC.cell d3; have y5 := hC.cell d4; have y6 := hC.cell d5; have y7 := hC.cell d6; have y8 := hC.cell d7; go_simp; with_reducible rfl)
         clear hK K)
  with_reducible refine wpQuiet_nil ?_
  intro w3 k3
  go_simp
  go_wp2_with fail
  go_ret
  exact ⟨rfl, k3⟩
set_option maxRecDepth 100000 in
set_option maxHeartbeats 4000000 in
theorem nr7_b {w : World} {p g f : Nat} {n : Nd} {ca : Option Addr} {cap : Nat} {F : Int} (h : NB w p g n ca cap) (hF : w.heap[f]? = some (.cells #[.int .i64 F] 3 (0, 0))) (hi : innB n = true) (hb : 0 ≤ F ∧ F ≤ 4611686018427387904) (hl : winB n.lf 1 (F - 1) = true) :
    Calls Tryz.prog 113 #[.pointer (some ⟨p, 0, none⟩), .pointer (some ⟨f, 0, none⟩)] w fun e w' => e = .returned (.bool (winB n.rt 1 (F - 1))) ∧ Keep w w' := by
  have hI := ruleInner_any n ca cap
  rw [hi] at hI
  clear hi
  have hwr : IntKind.i64.wrap (F - 1) = F - 1 := by rw [IntWalk.i64_left]; exact IntWalk.wrap64_in _ (by omega)
  have hW := within_any n.lf 1 (F - 1)
  rw [hl] at hW
  have hV := within_any n.rt 1 (F - 1)
  generalize winB n.rt 1 (F - 1) = bw at hV ⊢
  clear hb hl
  obtain ⟨c0, -⟩ := cells1 h.bp
  obtain ⟨cf, -⟩ := cells1 hF
  obtain ⟨d0, d1, d2, d3, d4, d5, d6, d7⟩ := cells8 h.bn
  clear h hF
  go_enter Tryz.func113, Tryz.ntmps113
  go_wp2_with fail
  refine region_keep (Keep.refl w) (by kernel_rfl) (by kernel_rfl) ?_
  repeat
    with_reducible refine wpQuiet_step ?_
    intro K hK
    go_simp
    first
      | (with_reducible refine hK _ ?_; clear hK K)
      | (with_reducible refine (if_neg ?_).mpr (hK _ ?_)
         · decide
         clear hK K)
      | (apply Exists.intro
         with_reducible refine ⟨fun wx hC => ?_, hK _ ?_⟩
         · first
             | with_reducible rfl
             | with_reducible exact (hI wx).mono fun e w'' h => ⟨h.1, hC.trans h.2⟩
             | with_reducible exact (hW wx).mono fun e w'' h => ⟨h.1, by rw [h.2]; exact hC⟩
             | with_reducible exact (hV wx).mono fun e w'' h => ⟨h.1, by rw [h.2]; exact hC⟩
             | (have y0 := hC.cell c0; have yf := hC.cell cf; have y1 := hC.cell d0; have y2 := hC.cell d1; have y3 := hC.cell d2; have y4 := hC.cell d3; have y5 := hC.cell d4; have y6 := hC.cell d5; have y7 := hC.cell d6; have y8 := hC.cell d7; go_simp; with_reducible rfl)
         clear hK K)
  with_reducible refine wpQuiet_nil ?_
  intro w3 k3
  go_simp
  go_wp2_with fail
  go_ret
  exact ⟨rfl, k3⟩
theorem nr3_ans {w : World} {p g f : Nat} {n : Nd} {ca : Option Addr} {cap : Nat} {F : Int} (h : NB w p g n ca cap) (hF : w.heap[f]? = some (.cells #[.int .i64 F] 3 (0, 0))) (hb : 0 ≤ F ∧ F ≤ 4611686018427387904) : Ans w (15, 108, #[pv p, pv f]) (q15 n F) := by
  refine ⟨fun wx => by kernel_rfl, fun wx k => ?_⟩
  unfold q15
  cases hi : innB n with
  | false => exact nr3_f (h.keep k) (k.at hF) hi
  | true => exact nr3_t (h.keep k) (k.at hF) hi hb
theorem nr7_ans {w : World} {p g f : Nat} {n : Nd} {ca : Option Addr} {cap : Nat} {F : Int} (h : NB w p g n ca cap) (hF : w.heap[f]? = some (.cells #[.int .i64 F] 3 (0, 0))) (hb : 0 ≤ F ∧ F ≤ 4611686018427387904) : Ans w (19, 113, #[pv p, pv f]) (q19 n F) := by
  refine ⟨fun wx => by kernel_rfl, fun wx k => ?_⟩
  unfold q19
  cases hi : innB n with
  | false => exact nr7_f (h.keep k) (k.at hF) hi
  | true =>
    cases hl : winB n.lf 1 (F - 1) with
    | false => exact nr7_a (h.keep k) (k.at hF) hi hb hl
    | true => exact nr7_b (h.keep k) (k.at hF) hi hb hl
end Go.Proofs.YtinjikoocegooaaGreatDoor
