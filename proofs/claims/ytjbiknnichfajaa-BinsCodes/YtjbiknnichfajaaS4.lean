import Derived.Test.YtjbiknnichfajaaS2
set_option linter.unusedVariables false
set_option linter.unusedSimpArgs false
namespace Go.Proofs.Ytjbiknnichfajaa
open Go.RowKit Go.Shelf
/-- A region in whatever order whose operations read alone, its calls keeping what was there. -/
theorem region_keep' {id : Nat} {Q : Exit → Act → World → Prop} {a : Act} {w w2 : World} {l : List Oper} (k : Keep w2 w) (hm : Try.prog.follows .mixedOrders = true) (hB : Region.lexB .any l.toArray = true)
    (h : wpQuiet Try.prog l.toArray (Keep w2) (fun a' => ∀ w', Keep w2 w' → Q .normal a' w') l a) : (Code.region id l.toArray true).wp Try.prog Q a w :=
  wp_region_quiet (C := Keep w2) hm hB k.drew (by simpa using h)
theorem isPlace22 (a : Option Addr) (n c : Nat) (i : Int) (w : World) : Calls Try.prog 16 #[.slice a n c, .int .i64 i] w fun e w' => e = .returned (.bool (decide (0 ≤ i ∧ i < n))) ∧ w' = w := by
  by_cases h0 : 0 ≤ i
  · by_cases h1 : i < n
    · rw [decide_eq_true ⟨h0, h1⟩]
      go_enter Try.func16, Try.ntmps16
      go_wp2
      go_ret
      exact ⟨rfl, rfl⟩
    · rw [decide_eq_false (fun h => h1 h.2)]
      go_enter Try.func16, Try.ntmps16
      go_wp2
      go_ret
      exact ⟨rfl, rfl⟩
  · rw [decide_eq_false (fun h => h0 h.1)]
    go_enter Try.func16, Try.ntmps16
    go_wp2
    go_ret
    exact ⟨rfl, rfl⟩
theorem isPlace26 (a : Option Addr) (n c : Nat) (i : Int) (w : World) : Calls Try.prog 30 #[.slice a n c, .int .i64 i] w fun e w' => e = .returned (.bool (decide (0 ≤ i ∧ i < n))) ∧ w' = w := by
  by_cases h0 : 0 ≤ i
  · by_cases h1 : i < n
    · rw [decide_eq_true ⟨h0, h1⟩]
      go_enter Try.func30, Try.ntmps30
      go_wp2
      go_ret
      exact ⟨rfl, rfl⟩
    · rw [decide_eq_false (fun h => h1 h.2)]
      go_enter Try.func30, Try.ntmps30
      go_wp2
      go_ret
      exact ⟨rfl, rfl⟩
  · rw [decide_eq_false (fun h => h0 h.1)]
    go_enter Try.func30, Try.ntmps30
    go_wp2
    go_ret
    exact ⟨rfl, rfl⟩
/-- The bins as a value. -/
abbrev BV (a : Option Addr) (n c : Nat) (a2 : Option Addr) (n2 c2 : Nat) : Value := .agg #[.slice a n c, .slice a2 n2 c2]
/-- Bins that can be read: V the thresholds, T the categories. -/
structure Bn (w : World) (a a2 : Option Addr) (V : List (List Nat)) (T : List (List Int)) : Prop where
  rv : ∀ j, j < V.length → ∃ b o va vc, a = some ⟨b, o, none⟩ ∧ w.cell? ⟨b, o + j, none⟩ = some (.slice va (V.getD j []).length vc) ∧ RdF w va (V.getD j []) ∧ (V.getD j []).length ≤ 17592186044416 ∧ W64 (V.getD j [])
  rt : ∀ j, j < T.length → ∃ b o va vc, a2 = some ⟨b, o, none⟩ ∧ w.cell? ⟨b, o + j, none⟩ = some (.slice va (T.getD j []).length vc) ∧ RdI w va (T.getD j []) ∧ (T.getD j []).length ≤ 17592186044416
  nv : V.length ≤ 5864062014805
  nt : T.length ≤ 5864062014805
theorem Bn.keep {w w' : World} {a a2 : Option Addr} {V : List (List Nat)} {T : List (List Int)} (h : Bn w a a2 V T) (k : Keep w w') : Bn w' a a2 V T := by
  refine ⟨fun j hj => ?_, fun j hj => ?_, h.nv, h.nt⟩
  · obtain ⟨b, o, va, vc, e, h1, h2, h3⟩ := h.rv j hj
    exact ⟨b, o, va, vc, e, k.cell h1, h2.keep k, h3⟩
  · obtain ⟨b, o, va, vc, e, h1, h2, h3⟩ := h.rt j hj
    exact ⟨b, o, va, vc, e, k.cell h1, h2.keep k, h3⟩
/-- Feature i's thresholds and categories. -/
theorem scaleOf_any (a a2 : Option Addr) (c c2 : Nat) (V : List (List Nat)) (T : List (List Int)) (i : Nat) (w : World) (h : Bn w a a2 V T) (hi : i < V.length) (hi2 : i < T.length) :
    Calls Try.prog 13 #[BV a V.length c a2 T.length c2, .int .i64 i] w fun e w' => ∃ x cx y cy, e = .returned (SV x (V.getD i []).length cx y (T.getD i []).length cy) ∧ Sc w x y (V.getD i []) (T.getD i []) ∧ Keep w w' := by
  obtain ⟨b, o, x, cx, rfl, p1, p2, p3, p4⟩ := h.rv i hi
  obtain ⟨b2, o2, y, cy, rfl, r1, r2, r3⟩ := h.rt i hi2
  have hS : Sc w x y (V.getD i []) (T.getD i []) := ⟨p2, r2, p3, r3, p4⟩
  obtain ⟨w1, hw1, k1, t1, s1⟩ := boxed w #[.slice (some ⟨b, o, none⟩) V.length c, .slice (some ⟨b2, o2, none⟩) T.length c2] 25
  obtain ⟨w2, hw2, k2, t2, s2⟩ := boxed w1 #[.slice none 0 0, .slice none 0 0] 46
  rw [s1] at t2
  have q1 := k2.at t1
  obtain ⟨c0, c1, f0, f1⟩ := cells2 q1
  obtain ⟨d0, d1, g0, g1⟩ := cells2 t2
  have k12 := k1.trans k2
  have p1' := k12.cell p1
  have r1' := k12.cell r1
  have hic : (i : Int) < (V.length : Int) := by omega
  have hic2 : (i : Int) < (T.length : Int) := by omega
  have HS : Hid _ := hS
  generalize (V.getD i []) = l at *
  generalize (T.getD i []) = t at *
  clear h p1 p2 p3 p4 r1 r2 r3 hS
  go_enter Try.func13, Try.ntmps13
  go_wp2_with (first | rw [hw1] | rw [hw2])
  go_region
  go_simp
  go_wp2_with fail
  have hh := heap2 w2 (w.heap.size + 1) (.slice x l.length cx) (.slice y t.length cy) t2
  have kk := (keep2 k12 (w.heap.size + 1) (by omega) (.slice x l.length cx) (.slice y t.length cy)).drew
  exact bodyPost_ret (ret_scale rfl _ _ (w.heap.size + 1) _ _ rfl hh) rfl ⟨x, cx, y, cy, rfl, HS.out, kk⟩
end Go.Proofs.Ytjbiknnichfajaa
