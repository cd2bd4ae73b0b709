import Derived.Test.YtjbiknnichfajaaS2
import Derived.Laws.StructEq
set_option linter.unusedVariables false
set_option linter.unusedSimpArgs false
namespace Go.Proofs.Ytjbiknnichfajaa
open Go.RowKit Go.Shelf
/-- Two codes held together. -/
theorem eq_code (W : World) (b t b' t' : Int) (lo lo' : Bool) : Sem.run Try.prog (Op.equalIn 10000 28 (.agg #[.int .i64 b, .int .i64 t, .bool lo]) (.agg #[.int .i64 b', .int .i64 t', .bool lo'])) W = .ok (decide (b = b' ∧ t = t' ∧ lo = lo')) W := by
  rw [run_equalIn_struct W 9999 28 _ _ (by kernel_rfl) (by kernel_rfl)]
  rw [show (Try.prog.fieldsOf 28).toList = _ from by unfold Program.fieldsOf; rw [Try.underlying28]]
  simp only [Op.eqFields, go_sem, run_equalIn_int (P := Try.prog) W 9998 3 .i64 .i64 _ _ Try.underlying3, run_equalIn_bool' (P := Try.prog) W 9998 4 _ _ Try.underlying4]
  by_cases h1 : b = b' <;> by_cases h2 : t = t' <;> by_cases h3 : lo = lo' <;> simp [h1, h2, h3, Result.andThen, go_sem, run_equalIn_int (P := Try.prog) W 9998 3 .i64 .i64 _ _ Try.underlying3, run_equalIn_bool' (P := Try.prog) W 9998 4 _ _ Try.underlying4]
theorem eq_guard : Try.prog.eqGuardType Try.prog.depth 28 = false := by kernel_rfl
theorem run_eqlC (W : World) (b t b' t' : Int) (lo lo' : Bool) : Sem.run Try.prog (binOp .eql 28 (.agg #[.int .i64 b, .int .i64 t, .bool lo]) (.agg #[.int .i64 b', .int .i64 t', .bool lo'])) W = .ok (.bool (decide (b = b' ∧ t = t' ∧ lo = lo'))) W := by
  rw [run_eql_struct, eq_code]; rfl
theorem run_neqC (W : World) (b t b' t' : Int) (lo lo' : Bool) : Sem.run Try.prog (binOp .neq 28 (.agg #[.int .i64 b, .int .i64 t, .bool lo]) (.agg #[.int .i64 b', .int .i64 t', .bool lo'])) W = .ok (.bool (!decide (b = b' ∧ t = t' ∧ lo = lo'))) W := by
  rw [run_neq_struct, eq_code]; rfl
theorem run_guardC (W : World) (op : BinOp) (x y : Operand) (xs ys : Array Value) : (eqGuard op 28 x y (.agg xs) (.agg ys)).run Try.prog W = .ok () W := run_eqGuard_agg W op 28 x y xs ys eq_guard
attribute [local go_sem high] run_eqlC run_neqC run_guardC
/-- Is a code right for so many thresholds and categories? -/
def fitB (n m : Nat) (c : Cd) : Bool := if c.2.2 then decide (c.1 = 0 ∧ c.2.1 = -1) else decide (0 ≤ c.1 ∧ c.1 ≤ n ∧ -1 ≤ c.2.1 ∧ c.2.1 < m)
/-- A region in whatever order whose operations read alone, its calls keeping what was there. -/
theorem region_keep {id : Nat} {Q : Exit → Act → World → Prop} {a : Act} {w w2 : World} {l : List Oper} (k : Keep w2 w) (hm : Try.prog.follows .mixedOrders = true) (hB : Region.lexB .any l.toArray = true)
    (h : wpQuiet Try.prog l.toArray (Keep w2) (fun a' => ∀ w', Keep w2 w' → Q .normal a' w') l a) : (Code.region id l.toArray true).wp Try.prog Q a w :=
  wp_region_quiet (C := Keep w2) hm hB k.drew (by simpa using h)
set_option maxRecDepth 100000 in
set_option maxHeartbeats 4000000 in
theorem has_l1 (a a2 : Option Addr) (c c2 n m : Nat) (b t : Int) (w : World) (e0 : b = 0) (e1 : t = -1) :
    Calls Try.prog 17 #[SV a n c a2 m c2, .agg #[.int .i64 b, .int .i64 t, .bool true]] w fun e w' => e = .returned (.bool true) ∧ Keep w w' := by
  obtain ⟨w1, hw1, k1, t1, s1⟩ := boxed w #[.slice a n c, .slice a2 m c2] 46
  obtain ⟨w2, hw2, k2, t2, s2⟩ := boxed w1 #[.int .i64 b, .int .i64 t, .bool true] 28
  rw [s1] at t2
  have q1 := k2.at t1
  obtain ⟨c0, c1, f0, f1⟩ := cells2 q1
  obtain ⟨d0, d1, d2, g0, g1, g2⟩ := cells3 t2
  have k12 := k1.trans k2
  subst e0 e1
  go_enter Try.func17, Try.ntmps17
  go_wp2_with (first | rw [hw1] | rw [hw2])
  refine region_keep (Keep.refl w2) (by kernel_rfl) (by kernel_rfl) ?_
  repeat
    with_reducible refine wpQuiet_step ?_
    intro K hK
    go_simp
    first
      | (with_reducible refine hK _ ?_; clear hK K)
      | (with_reducible refine (if_neg ?_).mpr (hK _ ?_)
         · decide
         clear hK K)
      | (apply Exists.intro
         with_reducible refine ⟨fun wx hC => ?_, hK _ ?_⟩
         · first
             | with_reducible rfl
             | with_reducible exact (lost_any wx).mono fun e w'' h => ⟨h.1, hC.trans h.2⟩
             | (have y0 := hC.cell c0; have y1 := hC.cell c1; have y2 := hC.cell d0; have y3 := hC.cell d1; have y4 := hC.cell d2; go_simp; with_reducible rfl)
         clear hK K)
  with_reducible refine wpQuiet_nil ?_
  intro w3 k3
  go_simp
  go_wp2_with fail
  go_ret
  exact ⟨rfl, k12.trans k3⟩
set_option maxRecDepth 100000 in
set_option maxHeartbeats 4000000 in
theorem has_l2 (a a2 : Option Addr) (c c2 n m : Nat) (b t : Int) (w : World) (e0 : b = 0) (e1 : decide (t = -1) = false) :
    Calls Try.prog 17 #[SV a n c a2 m c2, .agg #[.int .i64 b, .int .i64 t, .bool true]] w fun e w' => e = .returned (.bool false) ∧ Keep w w' := by
  obtain ⟨w1, hw1, k1, t1, s1⟩ := boxed w #[.slice a n c, .slice a2 m c2] 46
  obtain ⟨w2, hw2, k2, t2, s2⟩ := boxed w1 #[.int .i64 b, .int .i64 t, .bool true] 28
  rw [s1] at t2
  have q1 := k2.at t1
  obtain ⟨c0, c1, f0, f1⟩ := cells2 q1
  obtain ⟨d0, d1, d2, g0, g1, g2⟩ := cells3 t2
  have k12 := k1.trans k2
  subst e0
  go_enter Try.func17, Try.ntmps17
  go_wp2_with (first | rw [hw1] | rw [hw2])
  refine region_keep (Keep.refl w2) (by kernel_rfl) (by kernel_rfl) ?_
  repeat
    with_reducible refine wpQuiet_step ?_
    intro K hK
    go_simp
    first
      | (with_reducible refine hK _ ?_; clear hK K)
      | (with_reducible refine (if_neg ?_).mpr (hK _ ?_)
         · decide
         clear hK K)
      | (apply Exists.intro
         with_reducible refine ⟨fun wx hC => ?_, hK _ ?_⟩
         · first
             | with_reducible rfl
             | with_reducible exact (lost_any wx).mono fun e w'' h => ⟨h.1, hC.trans h.2⟩
             | (have y0 := hC.cell c0; have y1 := hC.cell c1; have y2 := hC.cell d0; have y3 := hC.cell d1; have y4 := hC.cell d2; go_simp; with_reducible rfl)
         clear hK K)
  with_reducible refine wpQuiet_nil ?_
  intro w3 k3
  go_simp
  go_wp2_with fail
  go_ret
  exact ⟨rfl, k12.trans k3⟩
set_option maxRecDepth 100000 in
set_option maxHeartbeats 4000000 in
theorem has_l3 (a a2 : Option Addr) (c c2 n m : Nat) (b t : Int) (w : World) (e0 : decide (b = 0) = false) :
    Calls Try.prog 17 #[SV a n c a2 m c2, .agg #[.int .i64 b, .int .i64 t, .bool true]] w fun e w' => e = .returned (.bool false) ∧ Keep w w' := by
  obtain ⟨w1, hw1, k1, t1, s1⟩ := boxed w #[.slice a n c, .slice a2 m c2] 46
  obtain ⟨w2, hw2, k2, t2, s2⟩ := boxed w1 #[.int .i64 b, .int .i64 t, .bool true] 28
  rw [s1] at t2
  have q1 := k2.at t1
  obtain ⟨c0, c1, f0, f1⟩ := cells2 q1
  obtain ⟨d0, d1, d2, g0, g1, g2⟩ := cells3 t2
  have k12 := k1.trans k2
  go_enter Try.func17, Try.ntmps17
  go_wp2_with (first | rw [hw1] | rw [hw2])
  refine region_keep (Keep.refl w2) (by kernel_rfl) (by kernel_rfl) ?_
  repeat
    with_reducible refine wpQuiet_step ?_
    intro K hK
    go_simp
    first
      | (with_reducible refine hK _ ?_; clear hK K)
      | (with_reducible refine (if_neg ?_).mpr (hK _ ?_)
         · decide
         clear hK K)
      | (apply Exists.intro
         with_reducible refine ⟨fun wx hC => ?_, hK _ ?_⟩
         · first
             | with_reducible rfl
             | with_reducible exact (lost_any wx).mono fun e w'' h => ⟨h.1, hC.trans h.2⟩
             | (have y0 := hC.cell c0; have y1 := hC.cell c1; have y2 := hC.cell d0; have y3 := hC.cell d1; have y4 := hC.cell d2; go_simp; with_reducible rfl)
         clear hK K)
  with_reducible refine wpQuiet_nil ?_
  intro w3 k3
  go_simp
  go_wp2_with fail
  go_ret
  exact ⟨rfl, k12.trans k3⟩
set_option maxRecDepth 100000 in
set_option maxHeartbeats 4000000 in
theorem has_n1 (a a2 : Option Addr) (c c2 n m : Nat) (b t : Int) (w : World) (e0 : decide ((0 : Int) ≤ b) = false) :
    Calls Try.prog 17 #[SV a n c a2 m c2, .agg #[.int .i64 b, .int .i64 t, .bool false]] w fun e w' => e = .returned (.bool false) ∧ Keep w w' := by
  obtain ⟨w1, hw1, k1, t1, s1⟩ := boxed w #[.slice a n c, .slice a2 m c2] 46
  obtain ⟨w2, hw2, k2, t2, s2⟩ := boxed w1 #[.int .i64 b, .int .i64 t, .bool false] 28
  rw [s1] at t2
  have q1 := k2.at t1
  obtain ⟨c0, c1, f0, f1⟩ := cells2 q1
  obtain ⟨d0, d1, d2, g0, g1, g2⟩ := cells3 t2
  have k12 := k1.trans k2
  go_enter Try.func17, Try.ntmps17
  go_wp2_with (first | rw [hw1] | rw [hw2])
  refine region_keep (Keep.refl w2) (by kernel_rfl) (by kernel_rfl) ?_
  repeat
    with_reducible refine wpQuiet_step ?_
    intro K hK
    go_simp
    first
      | (with_reducible refine hK _ ?_; clear hK K)
      | (with_reducible refine (if_neg ?_).mpr (hK _ ?_)
         · decide
         clear hK K)
      | (apply Exists.intro
         with_reducible refine ⟨fun wx hC => ?_, hK _ ?_⟩
         · first
             | with_reducible rfl
             | with_reducible exact (lost_any wx).mono fun e w'' h => ⟨h.1, hC.trans h.2⟩
             | (have y0 := hC.cell c0; have y1 := hC.cell c1; have y2 := hC.cell d0; have y3 := hC.cell d1; have y4 := hC.cell d2; go_simp; with_reducible rfl)
         clear hK K)
  with_reducible refine wpQuiet_nil ?_
  intro w3 k3
  go_simp
  go_wp2_with fail
  go_ret
  exact ⟨rfl, k12.trans k3⟩
set_option maxRecDepth 100000 in
set_option maxHeartbeats 4000000 in
theorem has_n2 (a a2 : Option Addr) (c c2 n m : Nat) (b t : Int) (w : World) (e0 : decide ((0 : Int) ≤ b) = true) (e1 : decide (b ≤ (n : Int)) = false) :
    Calls Try.prog 17 #[SV a n c a2 m c2, .agg #[.int .i64 b, .int .i64 t, .bool false]] w fun e w' => e = .returned (.bool false) ∧ Keep w w' := by
  obtain ⟨w1, hw1, k1, t1, s1⟩ := boxed w #[.slice a n c, .slice a2 m c2] 46
  obtain ⟨w2, hw2, k2, t2, s2⟩ := boxed w1 #[.int .i64 b, .int .i64 t, .bool false] 28
  rw [s1] at t2
  have q1 := k2.at t1
  obtain ⟨c0, c1, f0, f1⟩ := cells2 q1
  obtain ⟨d0, d1, d2, g0, g1, g2⟩ := cells3 t2
  have k12 := k1.trans k2
  go_enter Try.func17, Try.ntmps17
  go_wp2_with (first | rw [hw1] | rw [hw2])
  refine region_keep (Keep.refl w2) (by kernel_rfl) (by kernel_rfl) ?_
  repeat
    with_reducible refine wpQuiet_step ?_
    intro K hK
    go_simp
    first
      | (with_reducible refine hK _ ?_; clear hK K)
      | (with_reducible refine (if_neg ?_).mpr (hK _ ?_)
         · decide
         clear hK K)
      | (apply Exists.intro
         with_reducible refine ⟨fun wx hC => ?_, hK _ ?_⟩
         · first
             | with_reducible rfl
             | with_reducible exact (lost_any wx).mono fun e w'' h => ⟨h.1, hC.trans h.2⟩
             | (have y0 := hC.cell c0; have y1 := hC.cell c1; have y2 := hC.cell d0; have y3 := hC.cell d1; have y4 := hC.cell d2; go_simp; with_reducible rfl)
         clear hK K)
  with_reducible refine wpQuiet_nil ?_
  intro w3 k3
  go_simp
  go_wp2_with fail
  go_ret
  exact ⟨rfl, k12.trans k3⟩
set_option maxRecDepth 100000 in
set_option maxHeartbeats 4000000 in
theorem has_n3 (a a2 : Option Addr) (c c2 n m : Nat) (b t : Int) (w : World) (e0 : decide ((0 : Int) ≤ b) = true) (e1 : decide (b ≤ (n : Int)) = true) (e2 : decide ((-1 : Int) ≤ t) = false) :
    Calls Try.prog 17 #[SV a n c a2 m c2, .agg #[.int .i64 b, .int .i64 t, .bool false]] w fun e w' => e = .returned (.bool false) ∧ Keep w w' := by
  obtain ⟨w1, hw1, k1, t1, s1⟩ := boxed w #[.slice a n c, .slice a2 m c2] 46
  obtain ⟨w2, hw2, k2, t2, s2⟩ := boxed w1 #[.int .i64 b, .int .i64 t, .bool false] 28
  rw [s1] at t2
  have q1 := k2.at t1
  obtain ⟨c0, c1, f0, f1⟩ := cells2 q1
  obtain ⟨d0, d1, d2, g0, g1, g2⟩ := cells3 t2
  have k12 := k1.trans k2
  go_enter Try.func17, Try.ntmps17
  go_wp2_with (first | rw [hw1] | rw [hw2])
  refine region_keep (Keep.refl w2) (by kernel_rfl) (by kernel_rfl) ?_
  repeat
    with_reducible refine wpQuiet_step ?_
    intro K hK
    go_simp
    first
      | (with_reducible refine hK _ ?_; clear hK K)
      | (with_reducible refine (if_neg ?_).mpr (hK _ ?_)
         · decide
         clear hK K)
      | (apply Exists.intro
         with_reducible refine ⟨fun wx hC => ?_, hK _ ?_⟩
         · first
             | with_reducible rfl
             | with_reducible exact (lost_any wx).mono fun e w'' h => ⟨h.1, hC.trans h.2⟩
             | (have y0 := hC.cell c0; have y1 := hC.cell c1; have y2 := hC.cell d0; have y3 := hC.cell d1; have y4 := hC.cell d2; go_simp; with_reducible rfl)
         clear hK K)
  with_reducible refine wpQuiet_nil ?_
  intro w3 k3
  go_simp
  go_wp2_with fail
  go_ret
  exact ⟨rfl, k12.trans k3⟩
set_option maxRecDepth 100000 in
set_option maxHeartbeats 4000000 in
theorem has_n4 (a a2 : Option Addr) (c c2 n m : Nat) (b t : Int) (w : World) (e0 : decide ((0 : Int) ≤ b) = true) (e1 : decide (b ≤ (n : Int)) = true) (e2 : decide ((-1 : Int) ≤ t) = true) (e3 : decide (t < (m : Int)) = false) :
    Calls Try.prog 17 #[SV a n c a2 m c2, .agg #[.int .i64 b, .int .i64 t, .bool false]] w fun e w' => e = .returned (.bool false) ∧ Keep w w' := by
  obtain ⟨w1, hw1, k1, t1, s1⟩ := boxed w #[.slice a n c, .slice a2 m c2] 46
  obtain ⟨w2, hw2, k2, t2, s2⟩ := boxed w1 #[.int .i64 b, .int .i64 t, .bool false] 28
  rw [s1] at t2
  have q1 := k2.at t1
  obtain ⟨c0, c1, f0, f1⟩ := cells2 q1
  obtain ⟨d0, d1, d2, g0, g1, g2⟩ := cells3 t2
  have k12 := k1.trans k2
  go_enter Try.func17, Try.ntmps17
  go_wp2_with (first | rw [hw1] | rw [hw2])
  refine region_keep (Keep.refl w2) (by kernel_rfl) (by kernel_rfl) ?_
  repeat
    with_reducible refine wpQuiet_step ?_
    intro K hK
    go_simp
    first
      | (with_reducible refine hK _ ?_; clear hK K)
      | (with_reducible refine (if_neg ?_).mpr (hK _ ?_)
         · decide
         clear hK K)
      | (apply Exists.intro
         with_reducible refine ⟨fun wx hC => ?_, hK _ ?_⟩
         · first
             | with_reducible rfl
             | with_reducible exact (lost_any wx).mono fun e w'' h => ⟨h.1, hC.trans h.2⟩
             | (have y0 := hC.cell c0; have y1 := hC.cell c1; have y2 := hC.cell d0; have y3 := hC.cell d1; have y4 := hC.cell d2; go_simp; with_reducible rfl)
         clear hK K)
  with_reducible refine wpQuiet_nil ?_
  intro w3 k3
  go_simp
  go_wp2_with fail
  go_ret
  exact ⟨rfl, k12.trans k3⟩
set_option maxRecDepth 100000 in
set_option maxHeartbeats 4000000 in
theorem has_n5 (a a2 : Option Addr) (c c2 n m : Nat) (b t : Int) (w : World) (e0 : decide ((0 : Int) ≤ b) = true) (e1 : decide (b ≤ (n : Int)) = true) (e2 : decide ((-1 : Int) ≤ t) = true) (e3 : decide (t < (m : Int)) = true) :
    Calls Try.prog 17 #[SV a n c a2 m c2, .agg #[.int .i64 b, .int .i64 t, .bool false]] w fun e w' => e = .returned (.bool true) ∧ Keep w w' := by
  obtain ⟨w1, hw1, k1, t1, s1⟩ := boxed w #[.slice a n c, .slice a2 m c2] 46
  obtain ⟨w2, hw2, k2, t2, s2⟩ := boxed w1 #[.int .i64 b, .int .i64 t, .bool false] 28
  rw [s1] at t2
  have q1 := k2.at t1
  obtain ⟨c0, c1, f0, f1⟩ := cells2 q1
  obtain ⟨d0, d1, d2, g0, g1, g2⟩ := cells3 t2
  have k12 := k1.trans k2
  go_enter Try.func17, Try.ntmps17
  go_wp2_with (first | rw [hw1] | rw [hw2])
  refine region_keep (Keep.refl w2) (by kernel_rfl) (by kernel_rfl) ?_
  repeat
    with_reducible refine wpQuiet_step ?_
    intro K hK
    go_simp
    first
      | (with_reducible refine hK _ ?_; clear hK K)
      | (with_reducible refine (if_neg ?_).mpr (hK _ ?_)
         · decide
         clear hK K)
      | (apply Exists.intro
         with_reducible refine ⟨fun wx hC => ?_, hK _ ?_⟩
         · first
             | with_reducible rfl
             | with_reducible exact (lost_any wx).mono fun e w'' h => ⟨h.1, hC.trans h.2⟩
             | (have y0 := hC.cell c0; have y1 := hC.cell c1; have y2 := hC.cell d0; have y3 := hC.cell d1; have y4 := hC.cell d2; go_simp; with_reducible rfl)
         clear hK K)
  with_reducible refine wpQuiet_nil ?_
  intro w3 k3
  go_simp
  go_wp2_with fail
  go_ret
  exact ⟨rfl, k12.trans k3⟩
theorem has_any (a a2 : Option Addr) (c c2 n m : Nat) (k : Cd) (w : World) :
    Calls Try.prog 17 #[SV a n c a2 m c2, CV k] w fun e w' => e = .returned (.bool (fitB n m k)) ∧ Keep w w' := by
  obtain ⟨b, t, lo⟩ := k
  cases lo
  · have hF : fitB n m (b, t, false) = decide (0 ≤ b ∧ b ≤ n ∧ -1 ≤ t ∧ t < m) := rfl
    rw [hF]
    by_cases h0 : 0 ≤ b
    · by_cases h1 : b ≤ n
      · by_cases h2 : -1 ≤ t
        · by_cases h3 : t < m
          · rw [decide_eq_true ⟨h0, h1, h2, h3⟩]; exact has_n5 a a2 c c2 n m b t w (decide_eq_true h0) (decide_eq_true h1) (decide_eq_true h2) (decide_eq_true h3)
          · rw [decide_eq_false (fun h => h3 h.2.2.2)]; exact has_n4 a a2 c c2 n m b t w (decide_eq_true h0) (decide_eq_true h1) (decide_eq_true h2) (decide_eq_false h3)
        · rw [decide_eq_false (fun h => h2 h.2.2.1)]; exact has_n3 a a2 c c2 n m b t w (decide_eq_true h0) (decide_eq_true h1) (decide_eq_false h2)
      · rw [decide_eq_false (fun h => h1 h.2.1)]; exact has_n2 a a2 c c2 n m b t w (decide_eq_true h0) (decide_eq_false h1)
    · rw [decide_eq_false (fun h => h0 h.1)]; exact has_n1 a a2 c c2 n m b t w (decide_eq_false h0)
  · have hF : fitB n m (b, t, true) = decide (b = 0 ∧ t = -1) := rfl
    rw [hF]
    by_cases h0 : b = 0
    · by_cases h1 : t = -1
      · rw [decide_eq_true ⟨h0, h1⟩]; exact has_l1 a a2 c c2 n m b t w h0 h1
      · rw [decide_eq_false (fun h => h1 h.2)]; exact has_l2 a a2 c c2 n m b t w h0 (decide_eq_false h1)
    · rw [decide_eq_false (fun h => h0 h.1)]; exact has_l3 a a2 c c2 n m b t w (decide_eq_false h0)
end Go.Proofs.Ytjbiknnichfajaa
