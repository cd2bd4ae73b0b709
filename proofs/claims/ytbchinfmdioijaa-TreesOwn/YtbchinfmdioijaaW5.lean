import Derived.Test.YtbchinfmdioijaaW4
set_option linter.unusedVariables false
set_option linter.unusedSimpArgs false
namespace Go.Proofs.Ytbchinfmdioijaa
open Go.RowKit Go.Shelf
attribute [local go_sem] Oper.semAt_some
set_option maxRecDepth 100000 in
set_option maxHeartbeats 2000000 in
theorem Way_err (n : Nat) (hn : 3 ≤ n) (a ax : Option Addr) (cap cx m : Nat) (out : Int) (L : List Nd) (hLn : L.length ≤ 2199023255552) (hE : shE L ≠ 0) (w : World) (hrd : RdN w a L) :
    CallsIn Fence.wide n Try.prog 24 #[.agg #[.int .i64 out, .slice a L.length cap], .slice ax m cx] w fun e w' => e = .returned (.tuple #[.slice none 0 0, .int .i64 (shE L)]) ∧ Keep w w' := by
  have h1 : 1 ≤ n := by omega
  have hS := fun (wx : World) (k : Keep w wx) => Shape_in (n - 1) wx a cap out L hLn (hrd.keep k)
  refine callsIn_of_wp_marks Try.func24 rfl trivial ?_ rfl
  simp only [Try.ntmps24, List.size_toArray, List.length_cons, List.length_nil, Nat.reduceAdd, Nat.reduceSub, Array.replicate_succ, Array.replicate_zero, List.push_toArray, List.append_toArray, List.nil_append, List.cons_append]
  have k0 : Keep w (w.alloc (Obj.cells #[Value.int IntKind.i64 out, Value.slice a L.length cap] 24)) := (Keep.refl w).alloc _
  have hS1 := hS _ k0
  have hB : (shE L == 0) = false := by simpa using hE
  have hB2 : (shE L != 0) = true := by simpa using hE
  clear hE
  generalize shE L = E at hB hB2 hS1 ⊢
  gi_wp2_with fail
  generalize w.alloc _ = w1 at k0 hS1 ⊢
  refine ⟨trivial, ?_⟩
  refine hS1.mono ?_
  rintro e w2 ⟨rfl, k2⟩
  gi_wp2_with fail
  exact ⟨_, results_tmp2 rfl _ _ _, rfl, k0.trans k2⟩
set_option maxRecDepth 100000 in
set_option maxHeartbeats 2000000 in
theorem Way_lack (n : Nat) (hn : 3 ≤ n) (a ax : Option Addr) (cap cx m : Nat) (out : Int) (L : List Nd) (hLn : L.length ≤ 2199023255552) (hE : shE L = 0) (hlk : lackB L m = true) (w : World) (hrd : RdN w a L) :
    CallsIn Fence.wide n Try.prog 24 #[.agg #[.int .i64 out, .slice a L.length cap], .slice ax m cx] w fun e w' => e = .returned (.tuple #[.slice none 0 0, .int .i64 72]) ∧ Keep w w' := by
  have h1 : 1 ≤ n := by omega
  have hS := fun (wx : World) (k : Keep w wx) => Shape_in (n - 1) wx a cap out L hLn (hrd.keep k)
  have hLk := fun (wx : World) (k : Keep w wx) => lacks_any a ax cap m cx L hLn wx (hrd.keep k)
  rw [hE] at hS
  rw [hlk] at hLk
  refine callsIn_of_wp_marks Try.func24 rfl trivial ?_ rfl
  simp only [Try.ntmps24, List.size_toArray, List.length_cons, List.length_nil, Nat.reduceAdd, Nat.reduceSub, Array.replicate_succ, Array.replicate_zero, List.push_toArray, List.append_toArray, List.nil_append, List.cons_append]
  have k0 : Keep w (w.alloc (Obj.cells #[Value.int IntKind.i64 out, Value.slice a L.length cap] 24)) := (Keep.refl w).alloc _
  have c1 : (w.alloc (Obj.cells #[Value.int IntKind.i64 out, Value.slice a L.length cap] 24)).cell? ⟨w.heap.size, 1, none⟩ = some (.slice a L.length cap) := by
    rw [cell_of_row _ _ 1 _ 24 (0, 0) (heap_alloc_new w _)]; rfl
  have hS1 := hS _ k0
  gi_wp2_with fail
  generalize w.alloc _ = w1 at k0 c1 hS1 ⊢
  refine ⟨trivial, ?_⟩
  refine hS1.mono ?_
  rintro e w2 ⟨rfl, k2⟩
  have c1 := k2.cell c1
  have k02 := k0.trans k2
  clear hS hS1 k2
  gi_wp2_with fail
  refine ⟨trivial, ?_⟩
  refine (callsIn_wide.2 (hLk _ k02)).mono ?_
  rintro e w3 ⟨rfl, k3⟩
  gi_wp2_with fail
  exact ⟨_, results_tmp2 rfl _ _ _, rfl, k02.trans k3⟩
theorem Way_any (a ax : Option Addr) (cap cx : Nat) (out : Int) (L : List Nd) (xs : List Nat) (hLn : L.length ≤ 2199023255552) (hxl : xs.length ≤ 17592186044416) (w : World) (hrd : RdN w a L) (hxd : RdF w ax xs) :
    Calls Try.prog 24 #[.agg #[.int .i64 out, .slice a L.length cap], .slice ax xs.length cx] w (LstE w (wyL L xs) (wyE L xs.length)) := by
  by_cases hE : shE L = 0
  · cases hlk : lackB L xs.length
    · have e0 : wyE L xs.length = 0 := by unfold wyE; rw [if_pos hE, hlk]; rfl
      refine ((callsIn_wide (n := 3)).1 (Way_in 3 (by omega) a ax cap cx out L xs hLn hxl hE hlk w hrd hxd)).mono ?_
      rintro e w' ⟨v, rfl, h1, h2, h3⟩
      refine ⟨v, by rw [e0], ?_, h2, h3⟩
      unfold wyL; rw [if_pos e0]; exact h1
    · have e0 : wyE L xs.length = 72 := by unfold wyE; rw [if_pos hE, hlk]; rfl
      refine ((callsIn_wide (n := 3)).1 (Way_lack 3 (by omega) a ax cap cx xs.length out L hLn hE hlk w hrd)).mono ?_
      rintro e w' ⟨rfl, h3⟩
      refine ⟨_, by rw [e0], ?_, fun b hb => (by cases hb), h3⟩
      unfold wyL; rw [if_neg (by rw [e0]; decide)]; exact OwnI.nil _
  · have e0 : wyE L xs.length = shE L := by unfold wyE; rw [if_neg hE]
    refine ((callsIn_wide (n := 3)).1 (Way_err 3 (by omega) a ax cap cx xs.length out L hLn hE w hrd)).mono ?_
    rintro e w' ⟨rfl, h3⟩
    refine ⟨_, by rw [e0], ?_, fun b hb => (by cases hb), h3⟩
    unfold wyL; rw [if_neg (by rw [e0]; exact hE)]; exact OwnI.nil _
end Go.Proofs.Ytbchinfmdioijaa
