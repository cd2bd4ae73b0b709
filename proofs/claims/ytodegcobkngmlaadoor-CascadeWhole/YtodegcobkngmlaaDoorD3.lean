import Derived.Test.YtodegcobkngmlaaDoorProg
import Derived.Test.YtodegcobkngmlaaDoorD2
import Derived.WalkKit
import Derived.WalkSpells
import Derived.WalkLawsBesides
import Derived.Deep.Draws
import Derived.Deep.QuietTactic
import Derived.BigQuiet
import Derived.Laws.Externs
import Derived.Laws.CopyOwn
import Derived.Shelf.Abstract
import Derived.Deep.RegionLaw
import Derived.BigRegion
import Derived.Deep.RegionHeld3
set_option linter.unusedVariables false
set_option linter.unusedSimpArgs false
namespace Go.Proofs.YtodegcobkngmlaaDoor
open Go.RowKit Go.Shelf
/-- A region in whatever order whose operations read alone, its calls keeping what was there. -/
theorem region_keep {id : Nat} {Q : Exit → Act → World → Prop} {a : Act} {w w2 : World} {l : List Oper} (k : Keep w2 w) (hm : Tryd.prog.follows .mixedOrders = true) (hB : Region.lexB .any l.toArray = true)
    (h : wpQuiet Tryd.prog l.toArray (Keep w2) (fun a' => ∀ w', Keep w2 w' → Q .normal a' w') l a) : (Code.region id l.toArray true).wp Tryd.prog Q a w :=
  wp_region_quiet (C := Keep w2) hm hB k.drew (by simpa using h)
def q15 (n : Nd) (F : Int) : Bool := !innB n || winB n.ft 0 (F - 1)
def q19 (n : Nd) (M : Int) : Bool := !innB n || (winB n.lf 1 (M - 1) && winB n.rt 1 (M - 1))
set_option maxRecDepth 100000 in
set_option maxHeartbeats 4000000 in
theorem nr3_f {w : World} {p g f : Nat} {n : Nd} {ca : Option Addr} {cap : Nat} {F : Int} (h : NB w p g n ca cap) (hF : w.heap[f]? = some (.cells #[.int .i64 F] 3 (0, 0))) (hi : innB n = false) :
    Calls Tryd.prog 80 #[.pointer (some ⟨p, 0, none⟩), .pointer (some ⟨f, 0, none⟩)] w fun e w' => e = .returned (.bool true) ∧ Keep w w' := by
  have hI := ruleInner_any n ca cap
  rw [hi] at hI
  clear hi
  obtain ⟨c0, -⟩ := cells1 h.bp
  obtain ⟨cf, -⟩ := cells1 hF
  obtain ⟨d0, d1, d2, d3, d4, d5, d6, d7⟩ := cells8 h.bn
  clear h hF
  go_enter Tryd.func80, Tryd.ntmps80
  go_wp2_with fail
  refine region_keep (Keep.refl w) (by kernel_rfl) (by kernel_rfl) ?_
  repeat
    with_reducible refine wpQuiet_step ?_
    intro K hK
    go_simp
    first
      | (with_reducible refine hK _ ?_; clear hK K)
      | (with_reducible refine (if_neg ?_).mpr (hK _ ?_)
         · decide
         clear hK K)
      | (apply Exists.intro
         with_reducible refine ⟨fun wx hC => ?_, hK _ ?_⟩
         · first
             | with_reducible rfl
             | with_reducible exact (hI wx).mono fun e w'' h => ⟨h.1, hC.trans h.2⟩
             | (have y0 := hC.cell c0; have y1 := hC.cell d0; have y2 := hC.cell d1; have y3 := hC.cell d2; have y4 := hC.cell d3; have y5 := hC.cell d4; have y6 := hC.cell d5; have y7 := hC.cell d6; have y8 := hC.cell d7; go_simp; with_reducible rfl)
         clear hK K)
  with_reducible refine wpQuiet_nil ?_
  intro w3 k3
  go_simp
  go_wp2_with fail
  go_ret
  exact ⟨rfl, k3⟩
set_option maxRecDepth 100000 in
set_option maxHeartbeats 4000000 in
theorem nr3_t {w : World} {p g f : Nat} {n : Nd} {ca : Option Addr} {cap : Nat} {F : Int} (h : NB w p g n ca cap) (hF : w.heap[f]? = some (.cells #[.int .i64 F] 3 (0, 0))) (hi : innB n = true) (hb : 0 ≤ F ∧ F ≤ 4611686018427387904) :
    Calls Tryd.prog 80 #[.pointer (some ⟨p, 0, none⟩), .pointer (some ⟨f, 0, none⟩)] w fun e w' => e = .returned (.bool (winB n.ft 0 (F - 1))) ∧ Keep w w' := by
  have hI := ruleInner_any n ca cap
  rw [hi] at hI
  clear hi
  have hwr : IntKind.i64.wrap (F - 1) = F - 1 := by rw [IntWalk.i64_left]; exact IntWalk.wrap64_in _ (by omega)
  have hW := within_any n.ft 0 (F - 1)
  generalize winB n.ft 0 (F - 1) = bw at hW ⊢
  clear hb
  obtain ⟨c0, -⟩ := cells1 h.bp
  obtain ⟨cf, -⟩ := cells1 hF
  obtain ⟨d0, d1, d2, d3, d4, d5, d6, d7⟩ := cells8 h.bn
  clear h hF
  go_enter Tryd.func80, Tryd.ntmps80
  go_wp2_with fail
  refine region_keep (Keep.refl w) (by kernel_rfl) (by kernel_rfl) ?_
  repeat
    with_reducible refine wpQuiet_step ?_
    intro K hK
    go_simp
    first
      | (with_reducible refine hK _ ?_; clear hK K)
      | (with_reducible refine (if_neg ?_).mpr (hK _ ?_)
         · decide
         clear hK K)
      | (apply Exists.intro
         with_reducible refine ⟨fun wx hC => ?_, hK _ ?_⟩
         · first
             | with_reducible rfl
             | with_reducible exact (hI wx).mono fun e w'' h => ⟨h.1, hC.trans h.2⟩
             | with_reducible exact (hW wx).mono fun e w'' h => ⟨h.1, by rw [h.2]; exact hC⟩
             | (have y0 := hC.cell c0; have yf := hC.cell cf; have y1 := hC.cell d0; have y2 := hC.cell d1; have y3 := hC.cell d2; have y4 := hC.cell d3; have y5 := hC.cell d4; have y6 := hC.cell d5; have y7 := hC.cell d6; have y8 := hC.cell d7; go_simp; with_reducible rfl)
         clear hK K)
  with_reducible refine wpQuiet_nil ?_
  intro w3 k3
  go_simp
  go_wp2_with fail
  go_ret
  exact ⟨rfl, k3⟩
set_option maxRecDepth 100000 in
set_option maxHeartbeats 4000000 in
theorem nr7_f {w : World} {p g f : Nat} {n : Nd} {ca : Option Addr} {cap : Nat} {F : Int} (h : NB w p g n ca cap) (hF : w.heap[f]? = some (.cells #[.int .i64 F] 3 (0, 0))) (hi : innB n = false) :
    Calls Tryd.prog 85 #[.pointer (some ⟨p, 0, none⟩), .pointer (some ⟨f, 0, none⟩)] w fun e w' => e = .returned (.bool true) ∧ Keep w w' := by
  have hI := ruleInner_any n ca cap
  rw [hi] at hI
  clear hi
  obtain ⟨c0, -⟩ := cells1 h.bp
  obtain ⟨cf, -⟩ := cells1 hF
  obtain ⟨d0, d1, d2, d3, d4, d5, d6, d7⟩ := cells8 h.bn
  clear h hF
  go_enter Tryd.func85, Tryd.ntmps85
  go_wp2_with fail
  refine region_keep (Keep.refl w) (by kernel_rfl) (by kernel_rfl) ?_
  repeat
    with_reducible refine wpQuiet_step ?_
    intro K hK
    go_simp
    first
      | (with_reducible refine hK _ ?_; clear hK K)
      | (with_reducible refine (if_neg ?_).mpr (hK _ ?_)
         · decide
         clear hK K)
      | (apply Exists.intro
         with_reducible refine ⟨fun wx hC => ?_, hK _ ?_⟩
         · first
             | with_reducible rfl
             | with_reducible exact (hI wx).mono fun e w'' h => ⟨h.1, hC.trans h.2⟩
             | (have y0 := hC.cell c0; have yf := hC.cell cf; have y1 := hC.cell d0; have y2 := hC.cell d1; have y3 := hC.cell d2; have y4 := hC.cell d3; have y5 := hC.cell d4; have y6 := hC.cell d5; have y7 := hC.cell d6; have y8 := hC.cell d7; go_simp; with_reducible rfl)
         clear hK K)
  with_reducible refine wpQuiet_nil ?_
  intro w3 k3
  go_simp
  go_wp2_with fail
  go_ret
  exact ⟨rfl, k3⟩
set_option maxRecDepth 100000 in
set_option maxHeartbeats 4000000 in
theorem nr7_a {w : World} {p g f : Nat} {n : Nd} {ca : Option Addr} {cap : Nat} {F : Int} (h : NB w p g n ca cap) (hF : w.heap[f]? = some (.cells #[.int .i64 F] 3 (0, 0))) (hi : innB n = true) (hb : 0 ≤ F ∧ F ≤ 4611686018427387904) (hl : winB n.lf 1 (F - 1) = false) :
    Calls Tryd.prog 85 #[.pointer (some ⟨p, 0, none⟩), .pointer (some ⟨f, 0, none⟩)] w fun e w' => e = .returned (.bool false) ∧ Keep w w' := by
  have hI := ruleInner_any n ca cap
  rw [hi] at hI
  clear hi
  have hwr : IntKind.i64.wrap (F - 1) = F - 1 := by rw [IntWalk.i64_left]; exact IntWalk.wrap64_in _ (by omega)
  have hW := within_any n.lf 1 (F - 1)
  rw [hl] at hW
  clear hb hl
  obtain ⟨c0, -⟩ := cells1 h.bp
  obtain ⟨cf, -⟩ := cells1 hF
  obtain ⟨d0, d1, d2, d3, d4, d5, d6, d7⟩ := cells8 h.bn
  clear h hF
  go_enter Tryd.func85, Tryd.ntmps85
  go_wp2_with fail
  refine region_keep (Keep.refl w) (by kernel_rfl) (by kernel_rfl) ?_
  repeat
    with_reducible refine wpQuiet_step ?_
    intro K hK
    go_simp
    first
      | (with_reducible refine hK _ ?_; clear hK K)
      | (with_reducible refine (if_neg ?_).mpr (hK _ ?_)
         · decide
         clear hK K)
      | (apply Exists.intro
         with_reducible refine ⟨fun wx hC => ?_, hK _ ?_⟩
         · first
             | with_reducible rfl
             | with_reducible exact (hI wx).mono fun e w'' h => ⟨h.1, hC.trans h.2⟩
             | with_reducible exact (hW wx).mono fun e w'' h => ⟨h.1, by rw [h.2]; exact hC⟩
             | (have y0 := hC.cell c0; have yf := hC.cell cf; have y1 := hC.cell d0; have y2 := hC.cell d1; have y3 := hC.cell d2; have y4 := hC.cell d3; have y5 := hC.cell d4; have y6 := hC.cell d5; have y7 := hC.cell d6; have y8 := hC.cell d7; go_simp; with_reducible rfl)
         clear hK K)
  with_reducible refine wpQuiet_nil ?_
  intro w3 k3
  go_simp
  go_wp2_with fail
  go_ret
  exact ⟨rfl, k3⟩
set_option maxRecDepth 100000 in
set_option maxHeartbeats 4000000 in
theorem nr7_b {w : World} {p g f : Nat} {n : Nd} {ca : Option Addr} {cap : Nat} {F : Int} (h : NB w p g n ca cap) (hF : w.heap[f]? = some (.cells #[.int .i64 F] 3 (0, 0))) (hi : innB n = true) (hb : 0 ≤ F ∧ F ≤ 4611686018427387904) (hl : winB n.lf 1 (F - 1) = true) :
    Calls Tryd.prog 85 #[.pointer (some ⟨p, 0, none⟩), .pointer (some ⟨f, 0, none⟩)] w fun e w' => e = .returned (.bool (winB n.rt 1 (F - 1))) ∧ Keep w w' := by
  have hI := ruleInner_any n ca cap
  rw [hi] at hI
  clear hi
  have hwr : IntKind.i64.wrap (F - 1) = F - 1 := by rw [IntWalk.i64_left]; exact IntWalk.wrap64_in _ (by omega)
  have hW := within_any n.lf 1 (F - 1)
  rw [hl] at hW
  have hV := within_any n.rt 1 (F - 1)
  generalize winB n.rt 1 (F - 1) = bw at hV ⊢
  clear hb hl
  obtain ⟨c0, -⟩ := cells1 h.bp
  obtain ⟨cf, -⟩ := cells1 hF
  obtain ⟨d0, d1, d2, d3, d4, d5, d6, d7⟩ := cells8 h.bn
  clear h hF
  go_enter Tryd.func85, Tryd.ntmps85
  go_wp2_with fail
  refine region_keep (Keep.refl w) (by kernel_rfl) (by kernel_rfl) ?_
  repeat
    with_reducible refine wpQuiet_step ?_
    intro K hK
    go_simp
    first
      | (with_reducible refine hK _ ?_; clear hK K)
      | (with_reducible refine (if_neg ?_).mpr (hK _ ?_)
         · decide
         clear hK K)
      | (apply Exists.intro
         with_reducible refine ⟨fun wx hC => ?_, hK _ ?_⟩
         · first
             | with_reducible rfl
             | with_reducible exact (hI wx).mono fun e w'' h => ⟨h.1, hC.trans h.2⟩
             | with_reducible exact (hW wx).mono fun e w'' h => ⟨h.1, by rw [h.2]; exact hC⟩
             | with_reducible exact (hV wx).mono fun e w'' h => ⟨h.1, by rw [h.2]; exact hC⟩
             | (have y0 := hC.cell c0; have yf := hC.cell cf; have y1 := hC.cell d0; have y2 := hC.cell d1; have y3 := hC.cell d2; have y4 := hC.cell d3; have y5 := hC.cell d4; have y6 := hC.cell d5; have y7 := hC.cell d6; have y8 := hC.cell d7; go_simp; with_reducible rfl)
         clear hK K)
  with_reducible refine wpQuiet_nil ?_
  intro w3 k3
  go_simp
  go_wp2_with fail
  go_ret
  exact ⟨rfl, k3⟩
theorem nr3_ans {w : World} {p g f : Nat} {n : Nd} {ca : Option Addr} {cap : Nat} {F : Int} (h : NB w p g n ca cap) (hF : w.heap[f]? = some (.cells #[.int .i64 F] 3 (0, 0))) (hb : 0 ≤ F ∧ F ≤ 4611686018427387904) : Ans w (15, 80, #[pv p, pv f]) (q15 n F) := by
  refine ⟨fun wx => by kernel_rfl, fun wx k => ?_⟩
  unfold q15
  cases hi : innB n with
  | false => exact nr3_f (h.keep k) (k.at hF) hi
  | true => exact nr3_t (h.keep k) (k.at hF) hi hb
theorem nr7_ans {w : World} {p g f : Nat} {n : Nd} {ca : Option Addr} {cap : Nat} {F : Int} (h : NB w p g n ca cap) (hF : w.heap[f]? = some (.cells #[.int .i64 F] 3 (0, 0))) (hb : 0 ≤ F ∧ F ≤ 4611686018427387904) : Ans w (19, 85, #[pv p, pv f]) (q19 n F) := by
  refine ⟨fun wx => by kernel_rfl, fun wx k => ?_⟩
  unfold q19
  cases hi : innB n with
  | false => exact nr7_f (h.keep k) (k.at hF) hi
  | true =>
    cases hl : winB n.lf 1 (F - 1) with
    | false => exact nr7_a (h.keep k) (k.at hF) hi hb hl
    | true => exact nr7_b (h.keep k) (k.at hF) hi hb hl
end Go.Proofs.YtodegcobkngmlaaDoor
