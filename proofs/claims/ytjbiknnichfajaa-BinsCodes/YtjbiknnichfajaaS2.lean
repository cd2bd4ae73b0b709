import Derived.Test.YtjbiknnichfajaaS1
set_option linter.unusedVariables false
set_option linter.unusedSimpArgs false
namespace Go.Proofs.Ytjbiknnichfajaa
open Go.RowKit Go.Shelf
theorem ord_self {x : Nat} (hx : x < 18446744073709551616) (h : ¬ isNaN x) : FloatKind.f64.format.order x x = some .eq := ord_eq hx hx h h rfl
theorem IsNaN_any (x : Nat) (w : World) (hx : x < 18446744073709551616) :
    Calls Try.prog 23 #[.float .f64 x] w fun e w' => e = .returned (.bool (decide (isNaN x))) ∧ w' = w := by
  by_cases h : isNaN x
  · have ho := ord_nan (x := x) (y := x) (.inl h)
    rw [decide_eq_true h]
    clear h
    go_enter Try.func23, Try.ntmps23
    go_wp2
    go_ret
    exact ⟨rfl, rfl⟩
  · have ho := ord_self hx h
    rw [decide_eq_false h]
    clear h
    go_enter Try.func23, Try.ntmps23
    go_wp2
    go_ret
    exact ⟨rfl, rfl⟩
/-- A code as a value. -/
abbrev CV (c : Cd) : Value := .agg #[.int .i64 c.1, .int .i64 c.2.1, .bool c.2.2]
/-- A feature's thresholds and categories as a value. -/
abbrev SV (a : Option Addr) (n c : Nat) (a2 : Option Addr) (n2 c2 : Nat) : Value := .agg #[.slice a n c, .slice a2 n2 c2]
theorem heap3 {T : Nat} (w : World) (g : Nat) {x0 x1 x2 : Value} (v0 v1 v2 : Value) (h : w.heap[g]? = some (.cells #[x0, x1, x2] T (0, 0))) :
    (((w.setCell ⟨g, 0, none⟩ v0).setCell ⟨g, 1, none⟩ v1).setCell ⟨g, 2, none⟩ v2).heap[g]? = some (.cells #[v0, v1, v2] T (0, 0)) := by
  have a0 := heap_setCell_same w g 0 _ T v0 h
  have a1 := heap_setCell_same _ g 1 _ T v1 a0
  have a2 := heap_setCell_same _ g 2 _ T v2 a1
  simpa using a2
theorem heap2 {T : Nat} (w : World) (g : Nat) {x0 x1 : Value} (v0 v1 : Value) (h : w.heap[g]? = some (.cells #[x0, x1] T (0, 0))) :
    ((w.setCell ⟨g, 0, none⟩ v0).setCell ⟨g, 1, none⟩ v1).heap[g]? = some (.cells #[v0, v1] T (0, 0)) := by
  have a0 := heap_setCell_same w g 0 _ T v0 h
  have a1 := heap_setCell_same _ g 1 _ T v1 a0
  simpa using a1
theorem keep3 {w w' : World} (k : Keep w w') (g : Nat) (h : w.heap.size ≤ g) (v0 v1 v2 : Value) : Keep w (((w'.setCell ⟨g, 0, none⟩ v0).setCell ⟨g, 1, none⟩ v1).setCell ⟨g, 2, none⟩ v2) :=
  ((k.setCell (p := ⟨g, 0, none⟩) h v0).setCell (p := ⟨g, 1, none⟩) h v1).setCell (p := ⟨g, 2, none⟩) h v2
theorem keep2 {w w' : World} (k : Keep w w') (g : Nat) (h : w.heap.size ≤ g) (v0 v1 : Value) : Keep w ((w'.setCell ⟨g, 0, none⟩ v0).setCell ⟨g, 1, none⟩ v1) :=
  (k.setCell (p := ⟨g, 0, none⟩) h v0).setCell (p := ⟨g, 1, none⟩) h v1
/-- Three cells that stand in a block. -/
theorem cells3 {T : Nat} {w : World} {g : Nat} {x0 x1 x2 : Value} (h : w.heap[g]? = some (.cells #[x0, x1, x2] T (0, 0))) : w.cell? ⟨g, 0, none⟩ = some x0 ∧ w.cell? ⟨g, 1, none⟩ = some x1 ∧ w.cell? ⟨g, 2, none⟩ = some x2 ∧ w.frozen? ⟨g, 0, none⟩ = false ∧ w.frozen? ⟨g, 1, none⟩ = false ∧ w.frozen? ⟨g, 2, none⟩ = false :=
  ⟨by rw [cell_of_row _ _ 0 _ T (0, 0) h]; rfl, by rw [cell_of_row _ _ 1 _ T (0, 0) h]; rfl, by rw [cell_of_row _ _ 2 _ T (0, 0) h]; rfl, frozen_of_row _ _ 0 _ T h, frozen_of_row _ _ 1 _ T h, frozen_of_row _ _ 2 _ T h⟩
theorem cells2 {T : Nat} {w : World} {g : Nat} {x0 x1 : Value} (h : w.heap[g]? = some (.cells #[x0, x1] T (0, 0))) : w.cell? ⟨g, 0, none⟩ = some x0 ∧ w.cell? ⟨g, 1, none⟩ = some x1 ∧ w.frozen? ⟨g, 0, none⟩ = false ∧ w.frozen? ⟨g, 1, none⟩ = false :=
  ⟨by rw [cell_of_row _ _ 0 _ T (0, 0) h]; rfl, by rw [cell_of_row _ _ 1 _ T (0, 0) h]; rfl, frozen_of_row _ _ 0 _ T h, frozen_of_row _ _ 1 _ T h⟩
theorem boxed (w : World) (cs : Array Value) (T : Nat) : ∃ w1, w.alloc (Obj.cells cs T) = w1 ∧ Keep w w1 ∧ w1.heap[w.heap.size]? = some (Obj.cells cs T (0, 0)) ∧ w1.heap.size = w.heap.size + 1 := ⟨_, rfl, (Keep.refl w).alloc _, heap_alloc_new w _, by simp⟩
theorem Keep.at {w w' : World} (k : Keep w w') {g : Nat} {o : Obj} (h : w.heap[g]? = some o) : w'.heap[g]? = some o := (k.block _ (Array.getElem?_eq_some_iff.1 h).1).trans h
theorem lt_of_at {w : World} {g : Nat} {o : Obj} (h : w.heap[g]? = some o) : g < w.heap.size := (Array.getElem?_eq_some_iff.1 h).1
/-- A code that is answered. -/
theorem ret_code {fn : Func} {t : Tmp} (h : fn.results = #[.cell t 28]) (tmps : Array Value) (w : World) (g : Nat) (v0 v1 v2 : Value) (hp : tmps.getD t undef = .pointer (some ⟨g, 0, none⟩)) (hh : w.heap[g]? = some (.cells #[v0, v1, v2] 28 (0, 0))) :
    (results fn tmps).run Try.prog w = .ok (.agg #[v0, v1, v2]) w := results_cell_row h tmps w g 28 _ (0, 0) _ hp hh Try.underlying28 rfl (by kernel_rfl)
theorem ret_scale {fn : Func} {t : Tmp} (h : fn.results = #[.cell t 46]) (tmps : Array Value) (w : World) (g : Nat) (v0 v1 : Value) (hp : tmps.getD t undef = .pointer (some ⟨g, 0, none⟩)) (hh : w.heap[g]? = some (.cells #[v0, v1] 46 (0, 0))) :
    (results fn tmps).run Try.prog w = .ok (.agg #[v0, v1]) w := results_cell_row h tmps w g 46 _ (0, 0) _ hp hh Try.underlying46 rfl (by kernel_rfl)
theorem lost_any (w : World) : Calls Try.prog 24 #[] w fun e w' => e = .returned (.agg #[.int .i64 0, .int .i64 (-1), .bool true]) ∧ Keep w w' := by
  obtain ⟨w1, hw1, k1, t1⟩ : ∃ w1, w.alloc (Obj.cells #[.int .i64 0, .int .i64 0, .bool false] 28) = w1 ∧ Keep w w1 ∧ w1.heap[w.heap.size]? = some (Obj.cells #[.int .i64 0, .int .i64 0, .bool false] 28 (0, 0)) := ⟨_, rfl, (Keep.refl w).alloc _, heap_alloc_new w _⟩
  obtain ⟨c0, c1, c2, f0, f1, f2⟩ := cells3 t1
  go_enter Try.func24, Try.ntmps24
  go_wp2_with (rw [hw1])
  have h := heap3 w1 w.heap.size (.int .i64 0) (.int .i64 (-1)) (.bool true) t1
  have k := keep3 k1 w.heap.size (Nat.le_refl _) (.int .i64 0) (.int .i64 (-1)) (.bool true)
  exact bodyPost_ret (ret_code rfl _ _ w.heap.size _ _ _ rfl h) rfl ⟨rfl, k⟩
/-- Thresholds and categories of a feature that can be read and are right. -/
structure Sc (w : World) (a a2 : Option Addr) (l : List Nat) (t : List Int) : Prop where
  rl : RdF w a l
  rt : RdI w a2 t
  nl : l.length ≤ 17592186044416
  nt : t.length ≤ 17592186044416
  wl : W64 l
structure ScR (l : List Nat) (t : List Int) : Prop where
  sl : Rs (kys l)
  st : Rs (kts t)
  ct : ∀ j, j < t.length → 0 ≤ t.getD j 0 ∧ t.getD j 0 < 1024
  nn : ∀ j, j < l.length → ¬ isNaN (l.getD j 0)
theorem Sc.keep {w w' : World} {a a2 : Option Addr} {l : List Nat} {t : List Int} (h : Sc w a a2 l t) (k : Keep w w') : Sc w' a a2 l t := ⟨h.rl.keep k, h.rt.keep k, h.nl, h.nt, h.wl⟩
theorem rank_any (a a2 : Option Addr) (c c2 : Nat) (l : List Nat) (t : List Int) (x : Nat) (w : World) (h : Sc w a a2 l t) (hR : ScR l t) (hx : x < 18446744073709551616) :
    Calls Try.prog 28 #[SV a l.length c a2 t.length c2, .float .f64 x] w fun e w' => e = .returned (.int .i64 (pl (kys l) (key x) : Nat)) ∧ Keep w w' := by
  have hp := fun wx k => place_f a c l x wx h.nl (h.rl.keep k) h.wl hx hR.sl
  generalize decide (pl (kys l) (key x) < l.length ∧ (kys l).getD (pl (kys l) (key x)) 0 = key x) = bb at hp
  generalize pl (kys l) (key x) = p at *
  obtain ⟨w1, hw1, k1, t1⟩ : ∃ w1, w.alloc (Obj.cells #[.slice a l.length c, .slice a2 t.length c2] 46) = w1 ∧ Keep w w1 ∧ w1.heap[w.heap.size]? = some (Obj.cells #[.slice a l.length c, .slice a2 t.length c2] 46 (0, 0)) := ⟨_, rfl, (Keep.refl w).alloc _, heap_alloc_new w _⟩
  obtain ⟨c0, c1, f0, f1⟩ := cells2 t1
  go_enter Try.func28, Try.ntmps28
  go_wp2_with (first
    | (go_at_call 38; refine (hp w1 k1).mono ?_; rintro e w2 ⟨rfl, rfl⟩)
    | (rw [hw1]))
  go_ret
  exact ⟨rfl, k1⟩
theorem code_any (a a2 : Option Addr) (c c2 : Nat) (l : List Nat) (t : List Int) (x : Nat) (w : World) (h : Sc w a a2 l t) (hR : ScR l t) (hx : x < 18446744073709551616) :
    Calls Try.prog 14 #[SV a l.length c a2 t.length c2, .float .f64 x] w fun e w' => e = .returned (CV (cdF (kys l) (kts t) x)) ∧ Keep w w' := by
  obtain ⟨w1, hw1, k1, t1, s1⟩ := boxed w #[.slice a l.length c, .slice a2 t.length c2] 46
  obtain ⟨w2, hw2, k2, t2, s2⟩ := boxed w1 #[.int .i64 0, .int .i64 0, .bool false] 28
  rw [s1] at t2
  have hN := IsNaN_any x w2 hx
  have q1 := k2.at t1
  obtain ⟨c0, c1, f0, f1⟩ := cells2 q1
  obtain ⟨d0, d1, d2, g0, g1, g2⟩ := cells3 t2
  have k12 := k1.trans k2
  by_cases hn : isNaN x
  · rw [decide_eq_true hn] at hN
    have hL := lost_any w2
    rw [cd_nan hn]
    clear hn
    go_enter Try.func14, Try.ntmps14
    go_wp2_with (first
      | (go_at_call 23; refine hN.mono ?_; rintro e w0 ⟨rfl, rfl⟩)
      | (go_at_call 24; refine hL.mono ?_; rintro e w3 ⟨rfl, k3⟩; have t3 := k3.at t2; obtain ⟨d0, d1, d2, g0, g1, g2⟩ := cells3 t3)
      | rw [hw1] | rw [hw2])
    have hh := heap3 w3 (w.heap.size + 1) (.int .i64 0) (.int .i64 (-1)) (.bool true) t3
    have kk := keep3 (k12.trans k3) (w.heap.size + 1) (by omega) (.int .i64 0) (.int .i64 (-1)) (.bool true)
    exact bodyPost_ret (ret_code rfl _ _ (w.heap.size + 1) _ _ _ rfl hh) rfl ⟨rfl, kk⟩
  · rw [decide_eq_false hn] at hN
    rw [cd_num hn, hR.st.ct (key x)]
    have hp := place_i a2 c2 t x w2 h.nt (h.rt.keep k12) hR.ct hx hR.st
    have hr := rank_any a a2 c c2 l t x w2 (h.keep k12) hR hx
    rw [kts_len]
    clear hn h hR
    generalize pl (kys l) (key x) = p at *
    generalize pl (kts t) (key x) = q at *
    generalize (kts t).getD q 0 = kq at *
    generalize key x = k at *
    by_cases hq : q < t.length ∧ kq = k
    · rw [decide_eq_true hq] at hp
      rw [if_pos hq]
      clear hq
      go_enter Try.func14, Try.ntmps14
      go_wp2_with (first
        | (go_at_call 23; refine hN.mono ?_; rintro e w0 ⟨rfl, rfl⟩)
        | (go_at_call 25; refine hp.mono ?_; rintro e w1 ⟨rfl, rfl⟩)
        | (go_at_call 28; refine hr.mono ?_; rintro e w3 ⟨rfl, k3⟩; have t3 := k3.at t2; obtain ⟨d0, d1, d2, g0, g1, g2⟩ := cells3 t3)
        | rw [hw1] | rw [hw2])
      have hh := heap3 w3 (w.heap.size + 1) (.int .i64 p) (.int .i64 q) (.bool false) t3
      have kk := keep3 (k12.trans k3) (w.heap.size + 1) (by omega) (.int .i64 p) (.int .i64 q) (.bool false)
      exact bodyPost_ret (ret_code rfl _ _ (w.heap.size + 1) _ _ _ rfl hh) rfl ⟨rfl, kk⟩
    · rw [decide_eq_false hq] at hp
      rw [if_neg hq]
      clear hq
      go_enter Try.func14, Try.ntmps14
      go_wp2_with (first
        | (go_at_call 23; refine hN.mono ?_; rintro e w0 ⟨rfl, rfl⟩)
        | (go_at_call 25; refine hp.mono ?_; rintro e w1 ⟨rfl, rfl⟩)
        | (go_at_call 28; refine hr.mono ?_; rintro e w3 ⟨rfl, k3⟩; have t3 := k3.at t2; obtain ⟨d0, d1, d2, g0, g1, g2⟩ := cells3 t3)
        | rw [hw1] | rw [hw2])
      have hh := heap3 w3 (w.heap.size + 1) (.int .i64 p) (.int .i64 (-1)) (.bool false) t3
      have kk := keep3 (k12.trans k3) (w.heap.size + 1) (by omega) (.int .i64 p) (.int .i64 (-1)) (.bool false)
      exact bodyPost_ret (ret_code rfl _ _ (w.heap.size + 1) _ _ _ rfl hh) rfl ⟨rfl, kk⟩
end Go.Proofs.Ytjbiknnichfajaa
