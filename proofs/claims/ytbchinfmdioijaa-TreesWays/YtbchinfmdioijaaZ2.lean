import Derived.Test.YtbchinfmdioijaaR6
import Derived.Test.YtbchinfmdioijaaY3
import Derived.Deep.RegionHeld3
set_option linter.unusedVariables false
set_option linter.unusedSimpArgs false
namespace Go.Proofs.Ytbchinfmdioijaa
open Go.RowKit Go.Shelf
set_option maxRecDepth 100000 in
set_option maxHeartbeats 1000000 in
theorem law_ways (a ax : Option Addr) (cap cx : Nat) (out : Int) (L : List Nd) (xs : List Nat) (hLn : L.length ≤ 2199023255552) (hxl : xs.length ≤ 17592186044416) (w : World) (hrd : RdN w a L) (hxd : RdF w ax xs) :
    Calls Try.prog 5 #[.agg #[.int .i64 out, .slice a L.length cap], .slice ax xs.length cx] w fun e w' => e = .returned (.bool true) ∧ Keep w w' := by
  have hW := fun (wx : World) (k : Keep w wx) => Way_any a ax cap cx out L xs hLn hxl wx (hrd.keep k) (hxd.keep k)
  have hV := fun (wx : World) (k : Keep w wx) => rWay_any a ax cap cx out L xs hLn hxl wx (hrd.keep k) (hxd.keep k)
  have hL := fun (wx : World) (k : Keep w wx) => Leaf_any a ax cap cx out L xs hLn hxl wx (hrd.keep k) (hxd.keep k)
  have hM := fun (wx : World) (k : Keep w wx) => rLeaf_any a ax cap cx out L xs hLn hxl wx (hrd.keep k) (hxd.keep k)
  have hwl : (wyL L xs).length ≤ 17592186044416 := by
    unfold wyL
    split
    · rename_i h
      obtain ⟨l, -, -, -, h4⟩ := way_last (xs := xs) (wyE_ok h).1
      omega
    · simp
  have k0 : Keep w (w.alloc (Obj.cells #[Value.int IntKind.i64 out, Value.slice a L.length cap] 24)) := (Keep.refl w).alloc _
  have c0 : (w.alloc (Obj.cells #[Value.int IntKind.i64 out, Value.slice a L.length cap] 24)).cell? ⟨w.heap.size, 0, none⟩ = some (.int .i64 out) := by rw [cell_of_row _ _ 0 _ 24 (0, 0) (heap_alloc_new w _)]; rfl
  have c1 : (w.alloc (Obj.cells #[Value.int IntKind.i64 out, Value.slice a L.length cap] 24)).cell? ⟨w.heap.size, 1, none⟩ = some (.slice a L.length cap) := by rw [cell_of_row _ _ 1 _ 24 (0, 0) (heap_alloc_new w _)]; rfl
  generalize wyL L xs = l at *
  generalize lfK L xs = K at *
  generalize lfV L xs = V at *
  generalize wyE L xs.length = E at *
  go_enter Try.func5, Try.ntmps5
  go_wp2_with fail
  generalize w.alloc _ = w1 at k0 c0 c1 ⊢
  refine (hW _ k0).mono ?_
  rintro e w2 ⟨v2, rfl, o2, b2, k2⟩
  have c0 := k2.cell c0
  have c1 := k2.cell c1
  have k02 := k0.trans k2
  obtain ⟨a2, n2, rfl, hn2, r2⟩ := o2.rdI
  go_wp2_with fail
  refine (hV _ k02).mono ?_
  rintro e w3 ⟨v3, rfl, o3, b3, k3⟩
  have c0 := k3.cell c0
  have c1 := k3.cell c1
  have k03 := k02.trans k3
  have r2 := r2.keep k3
  obtain ⟨a3, n3, rfl, hn3, r3⟩ := o3.rdI
  go_wp2_with fail
  refine (hL _ k03).mono ?_
  rintro e w4 ⟨rfl, k4⟩
  have c0 := k4.cell c0
  have c1 := k4.cell c1
  have k04 := k03.trans k4
  have r2 := r2.keep k4
  have r3 := r3.keep k4
  go_wp2_with fail
  refine (hM _ k04).mono ?_
  rintro e w5 ⟨rfl, k5⟩
  have k05 := k04.trans k5
  have r2 := r2.keep k5
  have r3 := r3.keep k5
  have hI := fun (wx : World) (k : Keep w5 wx) => rInts_any a2 a3 n2 n3 (l.map (fun x => ((x : Nat) : Int))) (l.map (fun x => ((x : Nat) : Int))) wx (by simpa using hwl) (r2.keep k) (r3.keep k)
  simp only [decide_true, List.length_map] at hI
  have hlv := lives_any
  clear hW hV hL hM
  go_wp2_with fail
  refine (hlv _).mono ?_
  rintro e w6 ⟨rfl, k6⟩
  go_wp2_with fail
  refine (hI _ k6).mono ?_
  rintro e w7 ⟨rfl, k7⟩
  go_wp2_with fail
  go_ret
  exact ⟨ret_bool (by simp), k05.trans (k6.trans k7)⟩
end Go.Proofs.Ytbchinfmdioijaa
