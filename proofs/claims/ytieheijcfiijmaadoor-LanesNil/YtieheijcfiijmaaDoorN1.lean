import Derived.Test.YtieheijcfiijmaaDoorZBG
set_option linter.unusedVariables false
set_option linter.unusedSimpArgs false
namespace Go.Proofs.YtieheijcfiijmaaDoor
open Go.RowKit Go.Shelf
theorem refuses_nil (v : Value) (w : World) : Calls Tryd.prog 8 #[.pointer none, v] w fun e w' => e = .returned (.tuple #[.int .i64 1, .int .i64 0]) ∧ w' = w := by
  go_enter Tryd.func8, Tryd.ntmps8
  go_wp2_with fail
  go_ret2
  exact ⟨rfl, rfl⟩
theorem Score_nil (v : Value) (w : World) : Calls Tryd.prog 4 #[.pointer none, v] w fun e w' => e = .returned (.tuple #[.slice none 0 0, .int .i64 1, .int .i64 0]) ∧ w' = w := by
  have h8 := refuses_nil v w
  go_enter Tryd.func4, Tryd.ntmps4
  go_wp2_with (go_at_call 8; refine h8.mono ?_; rintro e w1 ⟨rfl, rfl⟩)
  exact bodyPost_ret (v := .tuple #[.slice none 0 0, .int .i64 1, .int .i64 0]) (by simp [results, Tryd.results4, go_sem]) rfl ⟨rfl, rfl⟩
theorem Exits_nil (v : Value) (w : World) : Calls Tryd.prog 5 #[.pointer none, v] w fun e w' => e = .returned (.tuple #[.slice none 0 0, .int .i64 1, .int .i64 0]) ∧ w' = w := by
  have h8 := refuses_nil v w
  go_enter Tryd.func5, Tryd.ntmps5
  go_wp2_with (go_at_call 8; refine h8.mono ?_; rintro e w1 ⟨rfl, rfl⟩)
  exact bodyPost_ret (v := .tuple #[.slice none 0 0, .int .i64 1, .int .i64 0]) (by simp [results, Tryd.results5, go_sem]) rfl ⟨rfl, rfl⟩
theorem Work_nil (v : Value) (w : World) : Calls Tryd.prog 6 #[.pointer none, v] w fun e w' => e = .returned (.tuple #[.int .i64 0, .int .i64 1, .int .i64 0]) ∧ w' = w := by
  have h8 := refuses_nil v w
  go_enter Tryd.func6, Tryd.ntmps6
  go_wp2_with (go_at_call 8; refine h8.mono ?_; rintro e w1 ⟨rfl, rfl⟩)
  exact bodyPost_ret (v := .tuple #[.int .i64 0, .int .i64 1, .int .i64 0]) (by simp [results, Tryd.results6, go_sem]) rfl ⟨rfl, rfl⟩
set_option maxRecDepth 100000 in
theorem law_nil (v : Value) (w : World) : Calls Tryd.prog 3 #[v] w fun e w' => e = .returned (.bool true) ∧ Keep w w' := by
  have h4 := fun wx => Score_nil v wx
  have h5 := fun wx => Exits_nil v wx
  have h6 := fun wx => Work_nil v wx
  have h7 := begins_any w
  go_enter Tryd.func3, Tryd.ntmps3
  go_wp2_with (first
    | (go_at_call 4; refine (h4 _).mono ?_; rintro e w1 ⟨rfl, rfl⟩)
    | (go_at_call 5; refine (h5 _).mono ?_; rintro e w2 ⟨rfl, rfl⟩)
    | (go_at_call 6; refine (h6 _).mono ?_; rintro e w3 ⟨rfl, rfl⟩)
    | (go_at_call 7; refine h7.mono ?_; rintro e w4 ⟨rfl, k4⟩))
  go_ret
  exact ⟨rfl, k4⟩
end Go.Proofs.YtieheijcfiijmaaDoor
