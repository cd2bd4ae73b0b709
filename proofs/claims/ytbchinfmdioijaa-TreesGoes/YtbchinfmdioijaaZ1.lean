import Derived.Test.YtbchinfmdioijaaY3
import Derived.Test.YtbchinfmdioijaaV2
import Derived.Deep.RegionHeld3
set_option linter.unusedVariables false
set_option linter.unusedSimpArgs false
namespace Go.Proofs.Ytbchinfmdioijaa
open Go.RowKit Go.Shelf
set_option maxRecDepth 100000 in
set_option maxHeartbeats 1000000 in
theorem law_goes (n : Nd) (ca : Option Addr) (cap x : Nat) (w : World) (hr : RdI w ca n.cs) (hl : n.cs.length ≤ 17592186044416) (hc : n.cs.length ≤ cap) :
    Calls Try.prog 4 #[n.v ca cap, .float .f64 x] w fun e w' => e = .returned (.bool true) ∧ Keep w w' := by
  have k0 : Keep w (w.alloc (Obj.cells #[Value.int IntKind.u8 n.kd, Value.int IntKind.i64 n.vl, Value.int IntKind.i64 n.ft, Value.float FloatKind.f64 n.th, Value.slice ca n.cs.length cap, Value.int IntKind.u8 n.ms, Value.int IntKind.i64 n.lf, Value.int IntKind.i64 n.rt] 40)) := (Keep.refl w).alloc _
  have L := lives_any
  have G := fun (wx : World) (k : Keep w wx) => Goes_any n ca cap x wx (hr.keep k) hl hc
  have R := fun (wx : World) (k : Keep w wx) => rGoes_any n ca cap x wx (hr.keep k) hl hc
  generalize gsS n x = s at G R
  unfold Nd.v at G R ⊢
  go_enter Try.func4, Try.ntmps4
  go_wp2_with fail
  have hb : (w.alloc (Obj.cells #[Value.int IntKind.u8 n.kd, Value.int IntKind.i64 n.vl, Value.int IntKind.i64 n.ft, Value.float FloatKind.f64 n.th, Value.slice ca n.cs.length cap, Value.int IntKind.u8 n.ms, Value.int IntKind.i64 n.lf, Value.int IntKind.i64 n.rt] 40)).heap[w.heap.size]? = _ := heap_alloc_new w _
  have b0 := cell_of_row _ _ 0 _ 40 (0, 0) hb
  have b1 := cell_of_row _ _ 1 _ 40 (0, 0) hb
  have b2 := cell_of_row _ _ 2 _ 40 (0, 0) hb
  have b3 := cell_of_row _ _ 3 _ 40 (0, 0) hb
  have b4 := cell_of_row _ _ 4 _ 40 (0, 0) hb
  have b5 := cell_of_row _ _ 5 _ 40 (0, 0) hb
  have b6 := cell_of_row _ _ 6 _ 40 (0, 0) hb
  have b7 := cell_of_row _ _ 7 _ 40 (0, 0) hb
  clear hb
  generalize w.alloc _ = w1 at k0 b0 b1 b2 b3 b4 b5 b6 b7 ⊢
  generalize w.heap.size = s at b0 b1 b2 b3 b4 b5 b6 b7 ⊢
  simp only [List.getElem?_toArray, List.getElem?_cons_zero, List.getElem?_cons_succ] at b0 b1 b2 b3 b4 b5 b6 b7
  go_region_held3 (fun w' => w'.cell? ⟨s, 0, none⟩ = some (Value.int IntKind.u8 n.kd) ∧ w'.cell? ⟨s, 1, none⟩ = some (Value.int IntKind.i64 n.vl) ∧ w'.cell? ⟨s, 2, none⟩ = some (Value.int IntKind.i64 n.ft) ∧ w'.cell? ⟨s, 3, none⟩ = some (Value.float FloatKind.f64 n.th) ∧ w'.cell? ⟨s, 4, none⟩ = some (Value.slice ca n.cs.length cap) ∧ w'.cell? ⟨s, 5, none⟩ = some (Value.int IntKind.u8 n.ms) ∧ w'.cell? ⟨s, 6, none⟩ = some (Value.int IntKind.i64 n.lf) ∧ w'.cell? ⟨s, 7, none⟩ = some (Value.int IntKind.i64 n.rt)) (go_keep) (first
    | (go_at_call 14; refine (L _).mono ?_; rintro e wA ⟨rfl, kA⟩; have kA' : Keep w wA := k0.drew.trans kA; have d0 := Keep.cell kA b0; have d1 := Keep.cell kA b1; have d2 := Keep.cell kA b2; have d3 := Keep.cell kA b3; have d4 := Keep.cell kA b4; have d5 := Keep.cell kA b5; have d6 := Keep.cell kA b6; have d7 := Keep.cell kA b7)
    | (go_at_call 22; refine (G _ kA').mono ?_; rintro e wB ⟨rfl, kB⟩; have kB' : Keep w wB := kA'.trans kB; have f0 := Keep.cell kB d0; have f1 := Keep.cell kB d1; have f2 := Keep.cell kB d2; have f3 := Keep.cell kB d3; have f4 := Keep.cell kB d4; have f5 := Keep.cell kB d5; have f6 := Keep.cell kB d6; have f7 := Keep.cell kB d7)
    | (go_at_call 23; refine (R _ kB').mono ?_; rintro e wC ⟨rfl, kC⟩; have kC' : Keep w wC := kB'.trans kC; have g0 := Keep.cell kC f0; have g1 := Keep.cell kC f1; have g2 := Keep.cell kC f2; have g3 := Keep.cell kC f3; have g4 := Keep.cell kC f4; have g5 := Keep.cell kC f5; have g6 := Keep.cell kC f6; have g7 := Keep.cell kC f7))
  all_goals
    go_simp
    go_wp2_with fail
    go_ret
    exact ⟨rfl, kC'⟩
end Go.Proofs.Ytbchinfmdioijaa
