import Derived.Test.YtmkanofeencgpaaDoorQ2
import Derived.Test.YtmkanofeencgpaaDoorPFl
set_option linter.unusedVariables false
set_option linter.unusedSimpArgs false
namespace Go.Proofs.YtmkanofeencgpaaDoor
open Go.RowKit Go.Shelf
theorem andnot (x : Nat) (h : x < 18446744073709551616) : bits .andNot .u64 (x : Int) 9223372036854775808 = ((x % 9223372036854775808 : Nat) : Int) := by
  have := u64_andNot_nat x 9223372036854775808 h (by omega)
  rw [show ((9223372036854775808 : Nat) : Int) = 9223372036854775808 from rfl] at this
  rw [this, show 18446744073709551615 - 9223372036854775808 = 2 ^ 63 - 1 by decide, Nat.and_two_pow_sub_one_eq_mod]
theorem nanB_eq (x : Nat) : nanB x = decide (isNaN x) := by
  by_cases h : isNaN x
  · rw [decide_eq_true h]
    have : FloatKind.f64.format.order x x = none := order_nan x x (.inl h)
    unfold nanB; rw [this]; rfl
  · rw [decide_eq_false h]
    have : FloatKind.f64.format.order x x = some (compare (ky x) (ky x)) := order_ky x x h h
    unfold nanB; rw [this, Int.compare_eq_eq.2 rfl]; rfl
/-- The rule that a node breaks. -/
def ndR (n : Nd) (F M : Int) : Int := (sel (ndS n F M) 0 0).1
theorem nd0_eq (n : Nd) (F M : Int) (h1 : n.kd ≠ 1) (h2 : n.kd ≠ 2) (h3 : n.kd ≠ 3) : ndR n F M = 13 := by
  simp [ndR, ndS, sel, q13, innB, kdB, h1, h2, h3]
theorem nd1_eq (n : Nd) (F M : Int) (h : n.kd = 1) : ndR n F M = if n.th = 0 ∧ n.cs.length = 0 ∧ n.ft = 0 ∧ n.ms = 0 ∧ n.lf = 0 ∧ n.rt = 0 then 0 else 14 := by
  simp [ndR, ndS, sel, q13, restB, q15, q16, q17, q18, q19, innB, kdB, h, thB, csB, ftB0, msB, lfB, rtB, -List.length_eq_zero_iff]
  split <;> split <;> first | rfl | (exfalso; simp_all; done) | (exfalso; simp_all; omega)
theorem nd2_eq (n : Nd) (F M : Int) (h : n.kd = 2) : ndR n F M = if n.vl = 0 ∧ n.cs.length = 0 then (if 0 ≤ n.ft ∧ n.ft < F then (if nanB n.th = true then 16 else (if n.ms = 1 ∨ n.ms = 2 then (if 1 ≤ n.lf ∧ n.lf < M ∧ 1 ≤ n.rt ∧ n.rt < M then 0 else 19) else 18)) else 15) else 14 := by
  have e1 : (n.ft ≤ F - 1) ↔ n.ft < F := by omega
  have e2 : (n.lf ≤ M - 1) ↔ n.lf < M := by omega
  have e3 : (n.rt ≤ M - 1) ↔ n.rt < M := by omega
  simp only [ndR, ndS, sel, q13, restB, q15, q16, q17, q18, q19, innB, kdB, h, vlB, csB, msB, winB]
  simp [e1, e2, e3, -List.length_eq_zero_iff]
  by_cases a1 : n.vl = 0 ∧ n.cs.length = 0
  · rw [if_pos a1, if_pos a1]
    by_cases a2 : 0 ≤ n.ft ∧ n.ft < F
    · rw [if_pos a2, if_pos a2]
      by_cases a3 : nanB n.th = true
      · simp [a3]
      · simp [a3]
        by_cases a4 : n.ms = 1 ∨ n.ms = 2
        · simp [a4]
          by_cases a5 : (1 ≤ n.lf ∧ n.lf < M) ∧ 1 ≤ n.rt ∧ n.rt < M
          · rw [if_pos a5, if_pos ⟨a5.1.1, a5.1.2, a5.2⟩]
          · rw [if_neg a5, if_neg (fun h => a5 ⟨⟨h.1, h.2.1⟩, h.2.2⟩)]
        · simp [a4]
    · rw [if_neg a2, if_neg a2]
  · rw [if_neg a1, if_neg a1]
theorem nd3_eq (n : Nd) (F M : Int) (h : n.kd = 3) : ndR n F M = if n.vl = 0 ∧ n.th = 0 then (if 0 ≤ n.ft ∧ n.ft < F then (if catsB n.cs = true then (if n.ms = 1 ∨ n.ms = 2 then (if 1 ≤ n.lf ∧ n.lf < M ∧ 1 ≤ n.rt ∧ n.rt < M then 0 else 19) else 18) else 17) else 15) else 14 := by
  have e1 : (n.ft ≤ F - 1) ↔ n.ft < F := by omega
  have e2 : (n.lf ≤ M - 1) ↔ n.lf < M := by omega
  have e3 : (n.rt ≤ M - 1) ↔ n.rt < M := by omega
  simp only [ndR, ndS, sel, q13, restB, q15, q16, q17, q18, q19, innB, kdB, h, vlB, thB, msB, winB]
  simp [e1, e2, e3]
  by_cases a1 : n.vl = 0 ∧ n.th = 0
  · rw [if_pos a1, if_pos a1]
    by_cases a2 : 0 ≤ n.ft ∧ n.ft < F
    · rw [if_pos a2, if_pos a2]
      by_cases a3 : catsB n.cs = true
      · simp [a3]
        by_cases a4 : n.ms = 1 ∨ n.ms = 2
        · simp [a4]
          by_cases a5 : (1 ≤ n.lf ∧ n.lf < M) ∧ 1 ≤ n.rt ∧ n.rt < M
          · rw [if_pos a5, if_pos ⟨a5.1.1, a5.1.2, a5.2⟩]
          · rw [if_neg a5, if_neg (fun h => a5 ⟨⟨h.1, h.2.1⟩, h.2.2⟩)]
        · simp [a4]
      · simp [a3]
    · rw [if_neg a2, if_neg a2]
  · rw [if_neg a1, if_neg a1]
set_option maxRecDepth 100000 in
set_option maxHeartbeats 4000000 in
theorem rnode_0 (n : Nd) (ca : Option Addr) (cap : Nat) (F M : Int) (w : World) (h1 : n.kd ≠ 1) (h2 : n.kd ≠ 2) (h3 : n.kd ≠ 3) :
    Calls Tryd.prog 52 #[.agg (nvs n ca cap), .int .i64 F, .int .i64 M] w fun e w' => e = .returned (.int .i64 (ndR n F M)) ∧ Keep w w' := by
  obtain ⟨w1, hw1, k1, t1, s1⟩ := boxed w (nvs n ca cap) 77
  obtain ⟨c0, c1, c2, c3, c4, c5, c6, c7⟩ := cells8 t1
  have fb := f64b n.th
  have HR : Hid (ndR n F M = 13) := nd0_eq n F M h1 h2 h3
  have e1 : ((n.kd : Int) == 1) = false := by rw [beq_eq_false_iff_ne]; omega
  have e2 : ((n.kd : Int) == 2) = false := by rw [beq_eq_false_iff_ne]; omega
  have e3 : ((n.kd : Int) == 3) = false := by rw [beq_eq_false_iff_ne]; omega
  clear h1 h2 h3
  go_enter Tryd.func52, Tryd.ntmps52
  go_wp2_with (rw [hw1])
  go_ret
  exact ⟨by rw [HR.out]; rfl, k1⟩
end Go.Proofs.YtmkanofeencgpaaDoor
