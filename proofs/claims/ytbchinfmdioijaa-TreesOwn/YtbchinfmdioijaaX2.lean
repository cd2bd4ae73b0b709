import Derived.Test.YtbchinfmdioijaaX1
set_option linter.unusedVariables false
set_option linter.unusedSimpArgs false
namespace Go.Proofs.Ytbchinfmdioijaa
open Go.RowKit Go.Shelf
attribute [local go_sem] Oper.semAt_some
set_option maxRecDepth 100000 in
set_option maxHeartbeats 2000000 in
theorem worth_err (n : Nat) (hn : 3 ≤ n) (a ax : Option Addr) (cap cx m : Nat) (out N : Int) (L : List Nd) (hLn : L.length ≤ 2199023255552) (hE : shE L ≠ 0) (w : World) (hrd : RdN w a L) :
    CallsIn Fence.wide n Try.prog 62 #[.agg #[.int .i64 out, .slice a L.length cap], .int .i64 N, .slice ax m cx] w fun e w' => e = .returned (.tuple #[.int .i64 0, .int .i64 (shE L)]) ∧ Keep w w' := by
  have h1 : 1 ≤ n := by omega
  have hS := fun (wx : World) (k : Keep w wx) => Shape_in (n - 1) wx a cap out L hLn (hrd.keep k)
  have hB : (shE L == 0) = false := by simpa using hE
  have hB2 : (shE L != 0) = true := by simpa using hE
  clear hE
  generalize shE L = E at hB hB2 hS ⊢
  refine callsIn_of_wp_marks Try.func62 rfl trivial ?_ rfl
  simp only [Try.ntmps62, List.size_toArray, List.length_cons, List.length_nil, Nat.reduceAdd, Nat.reduceSub, Array.replicate_succ, Array.replicate_zero, List.push_toArray, List.append_toArray, List.nil_append, List.cons_append]
  have k0 : Keep w (w.alloc (Obj.cells #[Value.int IntKind.i64 out, Value.slice a L.length cap] 24)) := (Keep.refl w).alloc _
  have c0 : (w.alloc (Obj.cells #[Value.int IntKind.i64 out, Value.slice a L.length cap] 24)).cell? ⟨w.heap.size, 0, none⟩ = some (.int .i64 out) := by
    rw [cell_of_row _ _ 0 _ 24 (0, 0) (heap_alloc_new w _)]; rfl
  have c1 : (w.alloc (Obj.cells #[Value.int IntKind.i64 out, Value.slice a L.length cap] 24)).cell? ⟨w.heap.size, 1, none⟩ = some (.slice a L.length cap) := by
    rw [cell_of_row _ _ 1 _ 24 (0, 0) (heap_alloc_new w _)]; rfl
  have hS1 := hS _ k0
  gi_wp2_with fail
  generalize w.alloc _ = w1 at k0 c0 c1 hS1 ⊢
  refine ⟨trivial, ?_⟩
  refine hS1.mono ?_
  rintro e w2 ⟨rfl, k2⟩
  have c0 := k2.cell c0
  have c1 := k2.cell c1
  have k02 := k0.trans k2
  clear hS hS1 k2
  gi_wp2_with fail
  exact ⟨_, results_tmp2 rfl _ _ _, rfl, k02⟩
set_option maxRecDepth 100000 in
set_option maxHeartbeats 2000000 in
theorem worth_out (n : Nat) (hn : 3 ≤ n) (a ax : Option Addr) (cap cx m : Nat) (out N : Int) (L : List Nd) (hLn : L.length ≤ 2199023255552) (hE : shE L = 0) (ho : out < 0 ∨ N ≤ out) (w : World) (hrd : RdN w a L) :
    CallsIn Fence.wide n Try.prog 62 #[.agg #[.int .i64 out, .slice a L.length cap], .int .i64 N, .slice ax m cx] w fun e w' => e = .returned (.tuple #[.int .i64 0, .int .i64 6]) ∧ Keep w w' := by
  have h1 : 1 ≤ n := by omega
  have hS := fun (wx : World) (k : Keep w wx) => Shape_in (n - 1) wx a cap out L hLn (hrd.keep k)
  rw [hE] at hS
  refine callsIn_of_wp_marks Try.func62 rfl trivial ?_ rfl
  simp only [Try.ntmps62, List.size_toArray, List.length_cons, List.length_nil, Nat.reduceAdd, Nat.reduceSub, Array.replicate_succ, Array.replicate_zero, List.push_toArray, List.append_toArray, List.nil_append, List.cons_append]
  have k0 : Keep w (w.alloc (Obj.cells #[Value.int IntKind.i64 out, Value.slice a L.length cap] 24)) := (Keep.refl w).alloc _
  have c0 : (w.alloc (Obj.cells #[Value.int IntKind.i64 out, Value.slice a L.length cap] 24)).cell? ⟨w.heap.size, 0, none⟩ = some (.int .i64 out) := by
    rw [cell_of_row _ _ 0 _ 24 (0, 0) (heap_alloc_new w _)]; rfl
  have c1 : (w.alloc (Obj.cells #[Value.int IntKind.i64 out, Value.slice a L.length cap] 24)).cell? ⟨w.heap.size, 1, none⟩ = some (.slice a L.length cap) := by
    rw [cell_of_row _ _ 1 _ 24 (0, 0) (heap_alloc_new w _)]; rfl
  have hS1 := hS _ k0
  gi_wp2_with fail
  generalize w.alloc _ = w1 at k0 c0 c1 hS1 ⊢
  refine ⟨trivial, ?_⟩
  refine hS1.mono ?_
  rintro e w2 ⟨rfl, k2⟩
  have c0 := k2.cell c0
  have c1 := k2.cell c1
  have k02 := k0.trans k2
  clear hS hS1 k2
  by_cases q : out < 0
  · have q1 : decide (out < 0) = true := by simpa using q
    gi_wp2_with fail
    exact ⟨_, results_tmp2 rfl _ _ _, rfl, k02⟩
  · have q1 : decide (out < 0) = false := by simpa using q
    have q3 : N ≤ out := by omega
    clear ho
    gi_wp2_with fail
    exact ⟨_, results_tmp2 rfl _ _ _, rfl, k02⟩
set_option maxRecDepth 100000 in
set_option maxHeartbeats 2000000 in
theorem worth_lack (n : Nat) (hn : 3 ≤ n) (a ax : Option Addr) (cap cx m : Nat) (out N : Int) (L : List Nd) (hLn : L.length ≤ 2199023255552) (hE : shE L = 0) (ho1 : 0 ≤ out) (ho2 : out < N) (hlk : lackB L m = true) (w : World) (hrd : RdN w a L) :
    CallsIn Fence.wide n Try.prog 62 #[.agg #[.int .i64 out, .slice a L.length cap], .int .i64 N, .slice ax m cx] w fun e w' => e = .returned (.tuple #[.int .i64 0, .int .i64 72]) ∧ Keep w w' := by
  have h1 : 1 ≤ n := by omega
  have hS := fun (wx : World) (k : Keep w wx) => Shape_in (n - 1) wx a cap out L hLn (hrd.keep k)
  have hLk := fun (wx : World) (k : Keep w wx) => lacks_any a ax cap m cx L hLn wx (hrd.keep k)
  rw [hE] at hS
  rw [hlk] at hLk
  refine callsIn_of_wp_marks Try.func62 rfl trivial ?_ rfl
  simp only [Try.ntmps62, List.size_toArray, List.length_cons, List.length_nil, Nat.reduceAdd, Nat.reduceSub, Array.replicate_succ, Array.replicate_zero, List.push_toArray, List.append_toArray, List.nil_append, List.cons_append]
  have k0 : Keep w (w.alloc (Obj.cells #[Value.int IntKind.i64 out, Value.slice a L.length cap] 24)) := (Keep.refl w).alloc _
  have c0 : (w.alloc (Obj.cells #[Value.int IntKind.i64 out, Value.slice a L.length cap] 24)).cell? ⟨w.heap.size, 0, none⟩ = some (.int .i64 out) := by
    rw [cell_of_row _ _ 0 _ 24 (0, 0) (heap_alloc_new w _)]; rfl
  have c1 : (w.alloc (Obj.cells #[Value.int IntKind.i64 out, Value.slice a L.length cap] 24)).cell? ⟨w.heap.size, 1, none⟩ = some (.slice a L.length cap) := by
    rw [cell_of_row _ _ 1 _ 24 (0, 0) (heap_alloc_new w _)]; rfl
  have hS1 := hS _ k0
  gi_wp2_with fail
  generalize w.alloc _ = w1 at k0 c0 c1 hS1 ⊢
  refine ⟨trivial, ?_⟩
  refine hS1.mono ?_
  rintro e w2 ⟨rfl, k2⟩
  have c0 := k2.cell c0
  have c1 := k2.cell c1
  have k02 := k0.trans k2
  clear hS hS1 k2
  have q1 : decide (out < 0) = false := by simpa using ho1
  have q2 : ¬ out < 0 := by omega
  have q3 : ¬ N ≤ out := by omega
  gi_wp2_with fail
  refine ⟨trivial, ?_⟩
  refine (callsIn_wide.2 (hLk _ k02)).mono ?_
  rintro e w3 ⟨rfl, k3⟩
  gi_wp2_with fail
  exact ⟨_, results_tmp2 rfl _ _ _, rfl, k02.trans k3⟩
theorem worth_any (a ax : Option Addr) (cap cx : Nat) (out N : Int) (L : List Nd) (xs : List Nat) (hLn : L.length ≤ 2199023255552) (hxl : xs.length ≤ 17592186044416) (w : World) (hrd : RdN w a L) (hxd : RdF w ax xs) :
    Calls Try.prog 62 #[.agg #[.int .i64 out, .slice a L.length cap], .int .i64 N, .slice ax xs.length cx] w fun e w' => e = .returned (.tuple #[.int .i64 (woV L out N xs), .int .i64 (woE L out N xs.length)]) ∧ Keep w w' := by
  by_cases hE : shE L = 0
  · by_cases ho : out < 0 ∨ N ≤ out
    · have e0 : woE L out N xs.length = 6 := by unfold woE; rw [if_pos hE, if_pos ho]
      have e1 : woV L out N xs = 0 := by unfold woV; rw [e0]; rfl
      rw [e0, e1]
      exact (callsIn_wide (n := 3)).1 (worth_out 3 (by omega) a ax cap cx xs.length out N L hLn hE ho w hrd)
    · cases hlk : lackB L xs.length
      · have e0 : woE L out N xs.length = 0 := by unfold woE; rw [if_pos hE, if_neg ho, hlk]; rfl
        have e1 : woV L out N xs = (L.getD (endN L xs) nd0).vl := by unfold woV; rw [if_pos e0]
        rw [e0, e1]
        exact (callsIn_wide (n := 3)).1 (worth_in 3 (by omega) a ax cap cx out N L xs hLn hxl hE (by omega) (by omega) hlk w hrd hxd)
      · have e0 : woE L out N xs.length = 72 := by unfold woE; rw [if_pos hE, if_neg ho, hlk]; rfl
        have e1 : woV L out N xs = 0 := by unfold woV; rw [e0]; rfl
        rw [e0, e1]
        exact (callsIn_wide (n := 3)).1 (worth_lack 3 (by omega) a ax cap cx xs.length out N L hLn hE (by omega) (by omega) hlk w hrd)
  · have e0 : woE L out N xs.length = shE L := by unfold woE; rw [if_neg hE]
    have e1 : woV L out N xs = 0 := by unfold woV; rw [if_neg (by rw [e0]; exact hE)]
    rw [e0, e1]
    exact (callsIn_wide (n := 3)).1 (worth_err 3 (by omega) a ax cap cx xs.length out N L hLn hE w hrd)
end Go.Proofs.Ytbchinfmdioijaa
