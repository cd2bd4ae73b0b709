import Derived.Test.YtckceokgeainlaaDoorS2
set_option linter.unusedVariables false
set_option linter.unusedSimpArgs false
namespace Go.Proofs.YtckceokgeainlaaDoor
open Go.RowKit Lb
set_option maxRecDepth 100000 in
theorem law_says (r t n : Int) (w : World) (hr0 : -9223372036854775808 ≤ r) (hr1 : r ≤ 9223372036854775807) (ht0 : -9223372036854775808 ≤ t) (ht1 : t ≤ 9223372036854775807) (hn0 : -9223372036854775808 ≤ n) (hn1 : n ≤ 9223372036854775807) (hT : Pw10 w) :
    Calls Tryd.prog 5 #[.agg #[.int .i64 r, .int .i64 t, .int .i64 n]] w fun e w' => e = .returned (.bool true) ∧ Keep w w' := by
  have h1 := fun wx (k : Keep w wx) => Say_any r t n wx hr0 hr1 ht0 ht1 hn0 hn1 (hT.keep k)
  have h2 := fun wx => rSay_any r t n wx hr0 hr1 ht0 ht1 hn0 hn1
  generalize S8 (say r t n) = s at *
  go_enter Tryd.func5, Tryd.ntmps5
  have k0 : Keep w (w.alloc (Obj.cells #[Value.int IntKind.i64 r, Value.int IntKind.i64 t, Value.int IntKind.i64 n] 30)) := (Keep.refl _).alloc _
  have hh : (w.alloc (Obj.cells #[Value.int IntKind.i64 r, Value.int IntKind.i64 t, Value.int IntKind.i64 n] 30)).heap[w.heap.size]? = some (Obj.cells #[Value.int IntKind.i64 r, Value.int IntKind.i64 t, Value.int IntKind.i64 n] 30 (0, 0)) := heap_alloc_new w _
  have y0 : (w.alloc (Obj.cells #[Value.int IntKind.i64 r, Value.int IntKind.i64 t, Value.int IntKind.i64 n] 30)).cell? ⟨w.heap.size, 0, none⟩ = some (.int .i64 r) := by rw [cell_of_row _ _ 0 _ 30 (0, 0) hh]; rfl
  have y1 : (w.alloc (Obj.cells #[Value.int IntKind.i64 r, Value.int IntKind.i64 t, Value.int IntKind.i64 n] 30)).cell? ⟨w.heap.size, 1, none⟩ = some (.int .i64 t) := by rw [cell_of_row _ _ 1 _ 30 (0, 0) hh]; rfl
  have y2 : (w.alloc (Obj.cells #[Value.int IntKind.i64 r, Value.int IntKind.i64 t, Value.int IntKind.i64 n] 30)).cell? ⟨w.heap.size, 2, none⟩ = some (.int .i64 n) := by rw [cell_of_row _ _ 2 _ 30 (0, 0) hh]; rfl
  clear hh
  go_wp2_with fail
  generalize w.alloc _ = W at k0 y0 y1 y2 ⊢
  generalize w.heap.size = g at y0 y1 y2 ⊢
  have kd : Keep w W.drew := k0.drew
  go_region_held3 (fun w' => w'.cell? ⟨g, 0, none⟩ = some (Value.int .i64 r) ∧ w'.cell? ⟨g, 1, none⟩ = some (Value.int .i64 t) ∧ w'.cell? ⟨g, 2, none⟩ = some (Value.int .i64 n)) (go_keep) (first
    | (go_at_call 22; refine (h1 _ ?_).mono ?_; exact kd; rintro e wA ⟨rfl, kA⟩; have k1 := kd.trans kA; have s0 := Keep.cell kA y0; have s1 := Keep.cell kA y1; have s2 := Keep.cell kA y2)
    | (go_at_call 23; refine (h2 _).mono ?_; rintro e wB ⟨rfl, kB⟩; have k2 := k1.trans kB; have u0 := Keep.cell kB s0; have u1 := Keep.cell kB s1; have u2 := Keep.cell kB s2))
  all_goals
    go_simp
    go_wp2_with fail
    go_ret
    exact ⟨rfl, k2⟩
end Go.Proofs.YtckceokgeainlaaDoor
