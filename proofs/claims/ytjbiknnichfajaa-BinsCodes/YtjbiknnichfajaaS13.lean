import Derived.Test.YtjbiknnichfajaaS8
set_option linter.unusedVariables false
set_option linter.unusedSimpArgs false
namespace Go.Proofs.Ytjbiknnichfajaa
open Go.RowKit Go.Shelf
set_option maxRecDepth 100000 in
set_option maxHeartbeats 1000000 in
theorem fits_lost (a a2 : Option Addr) (c c2 n m : Nat) (f : Int) (b t : Int) (w : World) (rb : Bool) (hr : rb = decide (b = 0 ∧ t = -1)) :
    Calls Try.prog 19 #[BV a n c a2 m c2, .int .i64 f, .agg #[.int .i64 b, .int .i64 t, .bool true]] w fun e w' => e = .returned (.bool rb) ∧ Keep w w' := by
  obtain ⟨w1, hw1, k1, t1, s1⟩ := boxed w #[.slice a n c, .slice a2 m c2] 25
  obtain ⟨w2, hw2, k2, t2, s2⟩ := boxed w1 #[.int .i64 b, .int .i64 t, .bool true] 28
  rw [s1] at t2
  have k12 := k1.trans k2
  obtain ⟨d0, d1, d2, g0, g1, g2⟩ := cells3 t2
  by_cases h0 : b = 0
  · have e0 : (b == 0) = true := beq_iff_eq.2 h0
    by_cases h1 : t = -1
    · have e1 : (t == -1) = true := beq_iff_eq.2 h1
      rw [hr, decide_eq_true ⟨h0, h1⟩]
      clear h0 h1 hr
      go_enter Try.func19, Try.ntmps19
      go_wp2_with (first | rw [hw1] | rw [hw2])
      go_ret
      exact ⟨ret_bool (by first | rfl | assumption), k12⟩
    · have e1 : (t == -1) = false := beq_eq_false_iff_ne.2 h1
      rw [hr, decide_eq_false (fun h => h1 h.2)]
      clear h0 h1 hr
      go_enter Try.func19, Try.ntmps19
      go_wp2_with (first | rw [hw1] | rw [hw2])
      go_ret
      exact ⟨ret_bool (by first | rfl | assumption), k12⟩
  · have e0 : (b == 0) = false := beq_eq_false_iff_ne.2 h0
    rw [hr, decide_eq_false (fun h => h0 h.1)]
    clear h0 hr
    go_enter Try.func19, Try.ntmps19
    go_wp2_with (first | rw [hw1] | rw [hw2])
    go_ret
    exact ⟨ret_bool (by first | rfl | assumption), k12⟩
set_option maxRecDepth 100000 in
set_option maxHeartbeats 1000000 in
theorem fits_num (a a2 : Option Addr) (c c2 : Nat) (V : List (List Nat)) (T : List (List Int)) (f : Nat) (b q : Int) (w : World) (h : Bn w a a2 V T) (hf : f < V.length) (hf2 : f < T.length) (rb : Bool) (hr : rb = decide (0 ≤ b ∧ b ≤ (V.getD f []).length ∧ -1 ≤ q ∧ q < (T.getD f []).length)) :
    Calls Try.prog 19 #[BV a V.length c a2 T.length c2, .int .i64 f, .agg #[.int .i64 b, .int .i64 q, .bool false]] w fun e w' => e = .returned (.bool rb) ∧ Keep w w' := by
  obtain ⟨w1, hw1, k1, t1, s1⟩ := boxed w #[.slice a V.length c, .slice a2 T.length c2] 25
  obtain ⟨w2, hw2, k2, t2, s2⟩ := boxed w1 #[.int .i64 b, .int .i64 q, .bool false] 28
  rw [s1] at t2
  have k12 := k1.trans k2
  have q1 := k2.at t1
  obtain ⟨c0, c1, f0, f1⟩ := cells2 q1
  obtain ⟨d0, d1, d2, g0, g1, g2⟩ := cells3 t2
  have hfc : (f : Int) < (V.length : Int) := by omega
  have hfc2 : (f : Int) < (T.length : Int) := by omega
  obtain ⟨b1, o1, xa, xc, rfl, p1, p2, p3, p4⟩ := (h.keep k12).rv f hf
  obtain ⟨b2, o2, ya, yc, rfl, r1, r2, r3⟩ := (h.keep k12).rt f hf2
  clear h p2 p4 r2
  generalize V.getD f [] = l at *
  generalize T.getD f [] = t at *
  by_cases h0 : 0 ≤ b
  · have e0 : decide (0 ≤ b) = true := decide_eq_true h0
    by_cases h1 : b ≤ l.length
    · have e1 : decide (b ≤ (l.length : Int)) = true := decide_eq_true h1
      by_cases h2 : -1 ≤ q
      · have e2 : decide (-1 ≤ q) = true := decide_eq_true h2
        by_cases h3 : q < t.length
        · have e3 : decide (q < (t.length : Int)) = true := decide_eq_true h3
          rw [hr, decide_eq_true ⟨h0, h1, h2, h3⟩]
          clear hr
          go_enter Try.func19, Try.ntmps19
          go_wp2_with (first | rw [hw1] | rw [hw2])
          go_big_quiet (fail)
          go_wp2_with fail
          go_ret
          exact ⟨ret_bool (by first | rfl | assumption), k12.drewN _⟩
        · have e3 : decide (q < (t.length : Int)) = false := decide_eq_false h3
          rw [hr, decide_eq_false (fun h => h3 h.2.2.2)]
          clear h3 hr
          go_enter Try.func19, Try.ntmps19
          go_wp2_with (first | rw [hw1] | rw [hw2])
          go_big_quiet (fail)
          go_wp2_with fail
          go_ret
          exact ⟨ret_bool (by first | rfl | assumption), k12.drewN _⟩
      · have e2 : decide (-1 ≤ q) = false := decide_eq_false h2
        rw [hr, decide_eq_false (fun h => h2 h.2.2.1)]
        clear h2 hr
        go_enter Try.func19, Try.ntmps19
        go_wp2_with (first | rw [hw1] | rw [hw2])
        go_big_quiet (fail)
        go_wp2_with fail
        go_ret
        exact ⟨ret_bool (by first | rfl | assumption), k12.drewN _⟩
    · have e1 : decide (b ≤ (l.length : Int)) = false := decide_eq_false h1
      rw [hr, decide_eq_false (fun h => h1 h.2.1)]
      clear h1 hr
      go_enter Try.func19, Try.ntmps19
      go_wp2_with (first | rw [hw1] | rw [hw2])
      go_big_quiet (fail)
      go_wp2_with fail
      go_ret
      exact ⟨ret_bool (by first | rfl | assumption), k12.drewN _⟩
  · have e0 : decide (0 ≤ b) = false := decide_eq_false h0
    rw [hr, decide_eq_false (fun h => h0 h.1)]
    clear h0 hr
    go_enter Try.func19, Try.ntmps19
    go_wp2_with (first | rw [hw1] | rw [hw2])
    go_big_quiet (fail)
    go_wp2_with fail
    go_ret
    exact ⟨ret_bool (by first | rfl | assumption), k12.drewN _⟩
end Go.Proofs.Ytjbiknnichfajaa
