import Derived.Test.YtodegcobkngmlaaDoorProg
import Derived.Test.YtodegcobkngmlaaDoorD1
import Derived.WalkKit
import Derived.WalkSpells
import Derived.WalkLawsBesides
import Derived.Deep.Draws
import Derived.Deep.QuietTactic
import Derived.BigQuiet
import Derived.Laws.Externs
import Derived.Laws.CopyOwn
import Derived.Shelf.Abstract
import Derived.Deep.RegionLaw
import Derived.BigRegion
import Derived.Deep.RegionHeld3
set_option linter.unusedVariables false
set_option linter.unusedSimpArgs false
namespace Go.Proofs.YtodegcobkngmlaaDoor
open Go.RowKit Go.Shelf
/-- A node in a box, and a box that points to it. -/
structure NB (w : World) (p g : Nat) (n : Nd) (ca : Option Addr) (cap : Nat) : Prop where
  bp : w.heap[p]? = some (.cells #[.pointer (some ⟨g, 0, none⟩)] 84 (0, 0))
  bn : w.heap[g]? = some (.cells (nvs n ca cap) 67 (0, 0))
  rd : RdI w ca n.cs
  fl : n.cs.length ≤ 17592186044416
theorem NB.keep {w w' : World} {p g : Nat} {n : Nd} {ca : Option Addr} {cap : Nat} (h : NB w p g n ca cap) (k : Keep w w') : NB w' p g n ca cap := ⟨k.at h.bp, k.at h.bn, h.rd.keep k, h.fl⟩
def q13 (n : Nd) : Bool := kdB n 1 || innB n
def q16 (n : Nd) : Bool := !kdB n 2 || !nanB n.th
def q17 (n : Nd) : Bool := !kdB n 3 || catsB n.cs
def q18 (n : Nd) : Bool := (!innB n || msB n 1) || msB n 2
set_option maxRecDepth 100000 in
theorem nr1_ans {w : World} {p g : Nat} {n : Nd} {ca : Option Addr} {cap : Nat} (h : NB w p g n ca cap) : Ans w (13, 76, #[pv p]) (q13 n) := by
  refine ⟨fun wx => by kernel_rfl, fun wx k => ?_⟩
  obtain ⟨c0, -⟩ := cells1 (k.at h.bp)
  obtain ⟨d0, d1, d2, d3, d4, d5, d6, d7⟩ := cells8 (k.at h.bn)
  have hI := ruleInner_any n ca cap wx
  have e1 : ((n.kd : Int) == 1) = kdB n 1 := kd_int n 1
  have H : Hid (q13 n = (kdB n 1 || innB n)) := rfl
  generalize q13 n = r at H ⊢
  generalize innB n = bi at hI H
  show Calls Tryd.prog 76 #[.pointer (some ⟨p, 0, none⟩)] wx _
  cases h1 : kdB n 1 with
  | true =>
    rw [h1] at e1 H
    clear h1
    go_enter Tryd.func76, Tryd.ntmps76
    go_wp2_with fail
    go_ret
    exact ⟨by rw [H.out]; rfl, Keep.refl _⟩
  | false =>
    rw [h1] at e1 H
    clear h1
    go_enter Tryd.func76, Tryd.ntmps76
    go_wp2_with (go_at_call 77; refine hI.mono ?_; rintro e w0 ⟨rfl, k0⟩)
    go_ret
    exact ⟨by rw [H.out, Bool.false_or]; rfl, k0⟩
set_option maxRecDepth 100000 in
theorem nr2_ans {w : World} {p g : Nat} {n : Nd} {ca : Option Addr} {cap : Nat} (h : NB w p g n ca cap) : Ans w (14, 78, #[pv p]) (restB n) := by
  refine ⟨fun wx => by kernel_rfl, fun wx k => ?_⟩
  obtain ⟨c0, -⟩ := cells1 (k.at h.bp)
  obtain ⟨d0, d1, d2, d3, d4, d5, d6, d7⟩ := cells8 (k.at h.bn)
  have hI := restZero_any n ca cap wx
  generalize restB n = r at hI ⊢
  show Calls Tryd.prog 78 #[.pointer (some ⟨p, 0, none⟩)] wx _
  go_enter Tryd.func78, Tryd.ntmps78
  go_wp2_with (go_at_call 79; refine hI.mono ?_; rintro e w0 ⟨rfl, k0⟩)
  go_ret
  exact ⟨rfl, k0⟩
set_option maxRecDepth 100000 in
theorem nr4_ans {w : World} {p g : Nat} {n : Nd} {ca : Option Addr} {cap : Nat} (h : NB w p g n ca cap) : Ans w (16, 81, #[pv p]) (q16 n) := by
  refine ⟨fun wx => by kernel_rfl, fun wx k => ?_⟩
  obtain ⟨c0, -⟩ := cells1 (k.at h.bp)
  obtain ⟨d0, d1, d2, d3, d4, d5, d6, d7⟩ := cells8 (k.at h.bn)
  have hI := IsNaN_any n.th wx
  have e1 : ((n.kd : Int) != 2) = !kdB n 2 := kd_ne n 2
  have H : Hid (q16 n = (!kdB n 2 || !nanB n.th)) := rfl
  generalize q16 n = r at H ⊢
  generalize nanB n.th = bi at hI H
  show Calls Tryd.prog 81 #[.pointer (some ⟨p, 0, none⟩)] wx _
  cases h1 : kdB n 2 with
  | false =>
    rw [h1] at e1 H
    clear h1
    go_enter Tryd.func81, Tryd.ntmps81
    go_wp2_with fail
    go_ret
    exact ⟨by rw [H.out]; rfl, Keep.refl _⟩
  | true =>
    rw [h1] at e1 H
    clear h1
    go_enter Tryd.func81, Tryd.ntmps81
    go_wp2_with (go_at_call 55; refine hI.mono ?_; rintro e w0 ⟨rfl, rfl⟩)
    go_ret
    exact ⟨by rw [H.out]; rfl, Keep.refl _⟩
set_option maxRecDepth 100000 in
theorem nr5_ans {w : World} {p g : Nat} {n : Nd} {ca : Option Addr} {cap : Nat} (h : NB w p g n ca cap) : Ans w (17, 82, #[pv p]) (q17 n) := by
  refine ⟨fun wx => by kernel_rfl, fun wx k => ?_⟩
  obtain ⟨c0, -⟩ := cells1 (k.at h.bp)
  obtain ⟨d0, d1, d2, d3, d4, d5, d6, d7⟩ := cells8 (k.at h.bn)
  have hI := ruleCats_any ca cap n.cs wx h.fl (h.rd.keep k)
  have e1 : ((n.kd : Int) != 3) = !kdB n 3 := kd_ne n 3
  have H : Hid (q17 n = (!kdB n 3 || catsB n.cs)) := rfl
  generalize q17 n = r at H ⊢
  generalize catsB n.cs = bi at hI H
  show Calls Tryd.prog 82 #[.pointer (some ⟨p, 0, none⟩)] wx _
  cases h1 : kdB n 3 with
  | false =>
    rw [h1] at e1 H
    clear h1
    go_enter Tryd.func82, Tryd.ntmps82
    go_wp2_with fail
    go_ret
    exact ⟨by rw [H.out]; rfl, Keep.refl _⟩
  | true =>
    rw [h1] at e1 H
    clear h1
    go_enter Tryd.func82, Tryd.ntmps82
    go_wp2_with (go_at_call 83; refine hI.mono ?_; rintro e w0 ⟨rfl, rfl⟩)
    go_ret
    exact ⟨by rw [H.out]; rfl, Keep.refl _⟩
set_option maxRecDepth 100000 in
theorem nr6_ans {w : World} {p g : Nat} {n : Nd} {ca : Option Addr} {cap : Nat} (h : NB w p g n ca cap) : Ans w (18, 84, #[pv p]) (q18 n) := by
  refine ⟨fun wx => by kernel_rfl, fun wx k => ?_⟩
  have hI := ruleInner_any n ca cap wx
  have e1 : ((n.ms : Int) == 1) = msB n 1 := ms_int n 1
  have e2 : ((n.ms : Int) == 2) = msB n 2 := ms_int n 2
  have H : Hid (q18 n = ((!innB n || msB n 1) || msB n 2)) := rfl
  generalize q18 n = r at H ⊢
  generalize innB n = bi at hI H
  generalize msB n 1 = b1 at e1 H
  generalize msB n 2 = b2 at e2 H
  obtain ⟨c0, -⟩ := cells1 (k.at h.bp)
  obtain ⟨d0, d1, d2, d3, d4, d5, d6, d7⟩ := cells8 (k.at h.bn)
  show Calls Tryd.prog 84 #[.pointer (some ⟨p, 0, none⟩)] wx _
  cases bi with
  | false =>
    go_enter Tryd.func84, Tryd.ntmps84
    go_wp2_with (go_at_call 77; refine hI.mono ?_; rintro e w0 ⟨rfl, k0⟩)
    go_ret
    exact ⟨by rw [H.out]; rfl, k0⟩
  | true =>
    cases b1 with
    | true =>
      go_enter Tryd.func84, Tryd.ntmps84
      go_wp2_with (go_at_call 77; refine hI.mono ?_; rintro e w0 ⟨rfl, k0⟩; have y0 := k0.cell c0; have y5 := k0.cell d5)
      go_ret
      exact ⟨by rw [H.out]; rfl, k0⟩
    | false =>
      go_enter Tryd.func84, Tryd.ntmps84
      go_wp2_with (go_at_call 77; refine hI.mono ?_; rintro e w0 ⟨rfl, k0⟩; have y0 := k0.cell c0; have y5 := k0.cell d5)
      go_ret
      exact ⟨by rw [H.out]; rfl, k0⟩
end Go.Proofs.YtodegcobkngmlaaDoor
