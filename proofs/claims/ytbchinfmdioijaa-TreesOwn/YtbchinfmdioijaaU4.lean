import Derived.Test.YtbchinfmdioijaaU2
import Derived.Test.YtbchinfmdioijaaU3
set_option linter.unusedVariables false
set_option linter.unusedSimpArgs false
namespace Go.Proofs.Ytbchinfmdioijaa
open Go.RowKit Go.Shelf
attribute [local go_sem] Oper.semAt_some
set_option maxRecDepth 100000 in
set_option maxHeartbeats 2000000 in
theorem chosen_err (F n : Nat) (hn : 3 ≤ n) (a : Option Addr) (cap : Nat) (out : Int) (L : List Nd) (hLn : L.length ≤ 2199023255552) (hE : shE L ≠ 0) (w : World) (hrd : RdN w a L) :
    CallsIn Fence.wide n Try.prog 48 #[.agg #[.int .i64 out, .slice a L.length cap], .func (.func F) #[] #[]] w fun e w' => e = .returned (.tuple #[.slice none 0 0, .int .i64 (shE L)]) ∧ Keep w w' := by
  have h1 : 1 ≤ n := by omega
  have hS := fun (wx : World) (k : Keep w wx) => Shape_in (n - 1) wx a cap out L hLn (hrd.keep k)
  refine callsIn_of_wp_marks Try.func48 rfl trivial ?_ rfl
  simp only [Try.ntmps48, List.size_toArray, List.length_cons, List.length_nil, Nat.reduceAdd, Nat.reduceSub, Array.replicate_succ, Array.replicate_zero, List.push_toArray, List.append_toArray, List.nil_append, List.cons_append]
  have k0 : Keep w ((w.alloc (Obj.cells #[Value.int IntKind.i64 out, Value.slice a L.length cap] 24)).alloc (Obj.cells #[Value.func (Fn.func F) #[] #[]] 76)) := ((Keep.refl w).alloc _).alloc _
  have hS1 := hS _ k0
  have hB : (shE L == 0) = false := by simpa using hE
  have hB2 : (shE L != 0) = true := by simpa using hE
  clear hE
  generalize shE L = E at hB hB2 hS1 ⊢
  gi_wp2_with fail
  generalize (w.alloc _).alloc _ = w1 at k0 hS1 ⊢
  refine ⟨trivial, ?_⟩
  refine hS1.mono ?_
  rintro e w2 ⟨rfl, k2⟩
  gi_wp2_with fail
  exact ⟨_, results_tmp2 rfl _ _ _, rfl, k0.trans k2⟩
/-- The leaves from left to right, and the other nodes. -/
def lvs (L : List Nd) : List Nat := if shE L = 0 then (ord (shp L) L.length).filter (fun i => (!decide ((L.getD i nd0).kd = 2 ∨ (L.getD i nd0).kd = 3))) else []
def inn (L : List Nd) : List Nat := if shE L = 0 then (ord (shp L) L.length).filter (fun i => decide ((L.getD i nd0).kd = 2 ∨ (L.getD i nd0).kd = 3)) else []
/-- A list of one's own, and an error. -/
def LstE (w : World) (l : List Nat) (E : Int) (e : Ending) (w' : World) : Prop := ∃ v, e = .returned (.tuple #[v, .int .i64 E]) ∧ OwnI w' v l ∧ (∀ b, v.ownBlock = some b → w.heap.size ≤ b) ∧ Keep w w'
theorem chosenL_any (a : Option Addr) (cap : Nat) (out : Int) (L : List Nd) (hLn : L.length ≤ 2199023255552) (w : World) (hrd : RdN w a L) :
    Calls Try.prog 48 #[.agg #[.int .i64 out, .slice a L.length cap], .func (.func 49) #[] #[]] w (LstE w (lvs L) (shE L)) := by
  by_cases hE : shE L = 0
  · refine ((callsIn_wide (n := 3)).1 (chosenL_in 3 (by omega) a cap out L hLn hE w hrd)).mono ?_
    rintro e w' ⟨v, rfl, h1, h2, h3⟩
    refine ⟨v, by rw [hE], ?_, h2, h3⟩
    unfold lvs; rw [if_pos hE]; exact h1
  · refine ((callsIn_wide (n := 3)).1 (chosen_err 49 3 (by omega) a cap out L hLn hE w hrd)).mono ?_
    rintro e w' ⟨rfl, h3⟩
    refine ⟨_, rfl, ?_, fun b hb => (by cases hb), h3⟩
    unfold lvs; rw [if_neg hE]; exact OwnI.nil _
theorem chosenI_any (a : Option Addr) (cap : Nat) (out : Int) (L : List Nd) (hLn : L.length ≤ 2199023255552) (w : World) (hrd : RdN w a L) :
    Calls Try.prog 48 #[.agg #[.int .i64 out, .slice a L.length cap], .func (.func 50) #[] #[]] w (LstE w (inn L) (shE L)) := by
  by_cases hE : shE L = 0
  · refine ((callsIn_wide (n := 3)).1 (chosenI_in 3 (by omega) a cap out L hLn hE w hrd)).mono ?_
    rintro e w' ⟨v, rfl, h1, h2, h3⟩
    refine ⟨v, by rw [hE], ?_, h2, h3⟩
    unfold inn; rw [if_pos hE]; exact h1
  · refine ((callsIn_wide (n := 3)).1 (chosen_err 50 3 (by omega) a cap out L hLn hE w hrd)).mono ?_
    rintro e w' ⟨rfl, h3⟩
    refine ⟨_, rfl, ?_, fun b hb => (by cases hb), h3⟩
    unfold inn; rw [if_neg hE]; exact OwnI.nil _
theorem LstE.up {w w1 : World} {l : List Nat} {E : Int} {e : Ending} {w' : World} (k : Keep w w1) (h : LstE w1 l E e w') : LstE w l E e w' := by
  obtain ⟨v, h1, h2, h3, h4⟩ := h
  exact ⟨v, h1, h2, fun b hb => Nat.le_trans k.le (h3 b hb), k.trans h4⟩
set_option maxRecDepth 100000 in
theorem Leaves_any (a : Option Addr) (cap : Nat) (out : Int) (L : List Nd) (hLn : L.length ≤ 2199023255552) (w : World) (hrd : RdN w a L) :
    Calls Try.prog 15 #[.agg #[.int .i64 out, .slice a L.length cap]] w (LstE w (lvs L) (shE L)) := by
  have hC := fun (wx : World) (k : Keep w wx) => chosenL_any a cap out L hLn wx (hrd.keep k)
  have k0 := fun o => (Keep.refl w).alloc o
  go_enter Try.func15, Try.ntmps15
  go_wp2_with fail
  refine (hC _ (k0 _)).mono ?_
  rintro e w1 ⟨v, rfl, h2, h3, h4⟩
  go_wp2_with fail
  go_ret2
  exact LstE.up (k0 _) ⟨v, rfl, h2, h3, h4⟩
set_option maxRecDepth 100000 in
theorem Inner_any (a : Option Addr) (cap : Nat) (out : Int) (L : List Nd) (hLn : L.length ≤ 2199023255552) (w : World) (hrd : RdN w a L) :
    Calls Try.prog 16 #[.agg #[.int .i64 out, .slice a L.length cap]] w (LstE w (inn L) (shE L)) := by
  have hC := fun (wx : World) (k : Keep w wx) => chosenI_any a cap out L hLn wx (hrd.keep k)
  have k0 := fun o => (Keep.refl w).alloc o
  go_enter Try.func16, Try.ntmps16
  go_wp2_with fail
  refine (hC _ (k0 _)).mono ?_
  rintro e w1 ⟨v, rfl, h2, h3, h4⟩
  go_wp2_with fail
  go_ret2
  exact LstE.up (k0 _) ⟨v, rfl, h2, h3, h4⟩
end Go.Proofs.Ytbchinfmdioijaa
