import Derived.Test.YtckceokgeainlaaDoorS1
set_option linter.unusedVariables false
set_option linter.unusedSimpArgs false
namespace Go.Proofs.YtckceokgeainlaaDoor
open Go.RowKit Lb
theorem num_neg {n : Int} (h : n < 0) : num n = 45 :: dec n.natAbs := by unfold num; rw [if_pos h]
theorem num_pos {n : Int} (h : ¬ n < 0) : num n = dec n.toNat := by unfold num; rw [if_neg h]
theorem plc_neg {s : List Nat} {n : Int} (h : n < 0) : plc s n = [] := by unfold plc; rw [if_pos h]
theorem plc_pos {s : List Nat} {n : Int} (h : ¬ n < 0) : plc s n = s ++ dec n.toNat := by unfold plc; rw [if_neg h, num_pos h]
theorem few_len {l : List Nat} {m : Nat} (n1 : Nrm l) (e1 : val l = m) (hm : m ≤ 9223372036854775808) : l.length ≤ 2 := by
  have h3 := val_len (a := [4294967295, 4294967295]) (by intro z hz; simp at hz; omega) n1 (by rw [e1, show val [4294967295, 4294967295] = 18446744073709551615 from rfl]; omega)
  simpa using h3
set_option maxRecDepth 100000 in
set_option maxHeartbeats 1000000 in
theorem rSay_any (r t n : Int) (w : World) (hr0 : -9223372036854775808 ≤ r) (hr1 : r ≤ 9223372036854775807) (ht0 : -9223372036854775808 ≤ t) (ht1 : t ≤ 9223372036854775807) (hn0 : -9223372036854775808 ≤ n) (hn1 : n ≤ 9223372036854775807) :
    Calls Tryd.prog 23 #[.agg #[.int .i64 r, .int .i64 t, .int .i64 n]] w fun e w' => e = .returned (.string (S8 (say r t n))) ∧ Keep w w' := by
  unfold say
  by_cases h : r = 0
  · subst h
    rw [if_pos rfl]
    go_enter Tryd.func23, Tryd.ntmps23
    go_wp2_with fail
    go_ret
    exact ⟨rfl, (Keep.refl _).alloc _⟩
  · rw [if_neg h]
    have hb : (r == 0) = false := by rw [beq_eq_false_iff_ne]; exact h
    by_cases hneg : r < 0
    all_goals by_cases ht : t < 0
    all_goals by_cases hn : n < 0
    · have kA : Keep w (w.alloc (Obj.cells #[Value.int IntKind.i64 r, Value.int IntKind.i64 t, Value.int IntKind.i64 n] 30)) := (Keep.refl _).alloc _
      have h1 : (w.alloc (Obj.cells #[Value.int IntKind.i64 r, Value.int IntKind.i64 t, Value.int IntKind.i64 n] 30)).heap[w.heap.size]? = some (Obj.cells #[Value.int IntKind.i64 r, Value.int IntKind.i64 t, Value.int IntKind.i64 n] 30 (0, 0)) := heap_alloc_new w _
      have y1 : (w.alloc (Obj.cells #[Value.int IntKind.i64 r, Value.int IntKind.i64 t, Value.int IntKind.i64 n] 30)).cell? ⟨w.heap.size, 1, none⟩ = some (.int .i64 t) := by rw [cell_of_row _ _ 1 _ 30 (0, 0) h1]; rfl
      have y2 : (w.alloc (Obj.cells #[Value.int IntKind.i64 r, Value.int IntKind.i64 t, Value.int IntKind.i64 n] 30)).cell? ⟨w.heap.size, 2, none⟩ = some (.int .i64 n) := by rw [cell_of_row _ _ 2 _ 30 (0, 0) h1]; rfl
      clear h1
      obtain ⟨m, hm⟩ : ∃ m : Nat, r.natAbs = m := ⟨_, rfl⟩
      have hml : m ≤ 9223372036854775808 := by omega
      have z1 : (S8 (dec m)).size ≤ 19 := by rw [S8_len]; exact dec_len hml
      have q0 : ¬ 9223372036854775807 < 6 + (S8 (dec m)).size := by omega
      have hS : S8 ([114, 117, 108, 101, 32] ++ num r ++ plc [32, 116, 114, 101, 101, 32] t ++ plc [32, 110, 111, 100, 101, 32] n) = (((⟨#[114, 117, 108, 101, 32]⟩ : ByteArray) ++ ⟨#[45]⟩) ++ S8 (dec m)) := by
        rw [show (⟨#[114, 117, 108, 101, 32]⟩ : ByteArray) = S8 [114, 117, 108, 101, 32] from rfl, show (⟨#[45]⟩ : ByteArray) = S8 [45] from rfl]
        simp only [S8_app]
        congr 1
        rw [num_neg hneg, hm, plc_neg ht, plc_neg hn]
        simp
      rw [hS]
      clear hS
      have hF := fun wx => rFrom_any m wx (by omega)
      have hw : IntKind.u64.wrap (-IntKind.u64.wrap r) = (m : Int) := by rw [IntKind.wrap_u64, IntKind.wrap_u64]; omega
      clear hm h
      generalize hx : S8 (dec m) = x1 at *
      have Hx : Hid (S8 (dec m) = x1) := hx
      clear hx
      go_enter Tryd.func23, Tryd.ntmps23
      go_wp2_with fail
      generalize w.alloc _ = W at kA y1 y2 ⊢
      generalize w.heap.size = g at y1 y2 ⊢
      clear hw
      refine (hF _).mono ?_
      rintro e w1 ⟨v, l, rfl, o1, m1, n1, e1, k1⟩
      obtain ⟨a1, c1, rfl, hc1, r1⟩ := o1.shape
      have hl := few_len n1 e1 hml
      have hP1 := rPrint_any a1 c1 l w1 hc1 (by omega) r1 m1
      rw [e1, Hx.out] at hP1
      clear hF e1 m1 n1 o1
      go_wp2_with fail
      refine hP1.mono ?_
      rintro e w2 ⟨rfl, k2⟩
      have kB := (kA.trans k1).trans k2
      have y1 := k2.cell (k1.cell y1)
      have y2 := k2.cell (k1.cell y2)
      clear hP1
      go_wp2_with fail
      go_ret
      exact ⟨rfl, kB⟩
    · have kA : Keep w (w.alloc (Obj.cells #[Value.int IntKind.i64 r, Value.int IntKind.i64 t, Value.int IntKind.i64 n] 30)) := (Keep.refl _).alloc _
      have h1 : (w.alloc (Obj.cells #[Value.int IntKind.i64 r, Value.int IntKind.i64 t, Value.int IntKind.i64 n] 30)).heap[w.heap.size]? = some (Obj.cells #[Value.int IntKind.i64 r, Value.int IntKind.i64 t, Value.int IntKind.i64 n] 30 (0, 0)) := heap_alloc_new w _
      have y1 : (w.alloc (Obj.cells #[Value.int IntKind.i64 r, Value.int IntKind.i64 t, Value.int IntKind.i64 n] 30)).cell? ⟨w.heap.size, 1, none⟩ = some (.int .i64 t) := by rw [cell_of_row _ _ 1 _ 30 (0, 0) h1]; rfl
      have y2 : (w.alloc (Obj.cells #[Value.int IntKind.i64 r, Value.int IntKind.i64 t, Value.int IntKind.i64 n] 30)).cell? ⟨w.heap.size, 2, none⟩ = some (.int .i64 n) := by rw [cell_of_row _ _ 2 _ 30 (0, 0) h1]; rfl
      clear h1
      obtain ⟨m, hm⟩ : ∃ m : Nat, r.natAbs = m := ⟨_, rfl⟩
      have hml : m ≤ 9223372036854775808 := by omega
      have z1 : (S8 (dec m)).size ≤ 19 := by rw [S8_len]; exact dec_len hml
      obtain ⟨mn, hmn⟩ : ∃ m : Nat, n.toNat = m := ⟨_, rfl⟩
      have z3 : (S8 (dec mn)).size ≤ 19 := by rw [S8_len]; exact dec_len (by omega)
      have q0 : ¬ 9223372036854775807 < 6 + (S8 (dec m)).size := by omega
      have q1 : ¬ 9223372036854775807 < 6 + (S8 (dec m)).size + 6 := by omega
      have q2 : ¬ 9223372036854775807 < 6 + (S8 (dec m)).size + 6 + (S8 (dec mn)).size := by omega
      have hS : S8 ([114, 117, 108, 101, 32] ++ num r ++ plc [32, 116, 114, 101, 101, 32] t ++ plc [32, 110, 111, 100, 101, 32] n) = ((((⟨#[114, 117, 108, 101, 32]⟩ : ByteArray) ++ ⟨#[45]⟩) ++ S8 (dec m)) ++ ⟨#[32, 110, 111, 100, 101, 32]⟩ ++ S8 (dec mn)) := by
        rw [show (⟨#[114, 117, 108, 101, 32]⟩ : ByteArray) = S8 [114, 117, 108, 101, 32] from rfl, show (⟨#[45]⟩ : ByteArray) = S8 [45] from rfl, show (⟨#[32, 110, 111, 100, 101, 32]⟩ : ByteArray) = S8 [32, 110, 111, 100, 101, 32] from rfl]
        simp only [S8_app]
        congr 1
        rw [num_neg hneg, hm, plc_neg ht, plc_pos hn, hmn]
        simp
      rw [hS]
      clear hS
      have hF := fun wx => rFrom_any m wx (by omega)
      have hw : IntKind.u64.wrap (-IntKind.u64.wrap r) = (m : Int) := by rw [IntKind.wrap_u64, IntKind.wrap_u64]; omega
      have hni : n = (mn : Int) := by omega
      have hD3 := fun wx => rdigits_any mn wx (by omega)
      subst hni
      clear hm hmn h
      generalize hx : S8 (dec m) = x1 at *
      have Hx : Hid (S8 (dec m) = x1) := hx
      clear hx
      generalize S8 (dec mn) = x3 at *
      go_enter Tryd.func23, Tryd.ntmps23
      go_wp2_with fail
      generalize w.alloc _ = W at kA y1 y2 ⊢
      generalize w.heap.size = g at y1 y2 ⊢
      clear hw
      refine (hF _).mono ?_
      rintro e w1 ⟨v, l, rfl, o1, m1, n1, e1, k1⟩
      obtain ⟨a1, c1, rfl, hc1, r1⟩ := o1.shape
      have hl := few_len n1 e1 hml
      have hP1 := rPrint_any a1 c1 l w1 hc1 (by omega) r1 m1
      rw [e1, Hx.out] at hP1
      clear hF e1 m1 n1 o1
      go_wp2_with fail
      refine hP1.mono ?_
      rintro e w2 ⟨rfl, k2⟩
      have kB := (kA.trans k1).trans k2
      have y1 := k2.cell (k1.cell y1)
      have y2 := k2.cell (k1.cell y2)
      clear hP1
      go_wp2_with fail
      refine (hD3 _).mono ?_
      rintro e w4 ⟨rfl, k4⟩
      have kD := kB.trans k4
      clear hD3
      go_wp2_with fail
      go_ret
      exact ⟨rfl, kD⟩
    · have kA : Keep w (w.alloc (Obj.cells #[Value.int IntKind.i64 r, Value.int IntKind.i64 t, Value.int IntKind.i64 n] 30)) := (Keep.refl _).alloc _
      have h1 : (w.alloc (Obj.cells #[Value.int IntKind.i64 r, Value.int IntKind.i64 t, Value.int IntKind.i64 n] 30)).heap[w.heap.size]? = some (Obj.cells #[Value.int IntKind.i64 r, Value.int IntKind.i64 t, Value.int IntKind.i64 n] 30 (0, 0)) := heap_alloc_new w _
      have y1 : (w.alloc (Obj.cells #[Value.int IntKind.i64 r, Value.int IntKind.i64 t, Value.int IntKind.i64 n] 30)).cell? ⟨w.heap.size, 1, none⟩ = some (.int .i64 t) := by rw [cell_of_row _ _ 1 _ 30 (0, 0) h1]; rfl
      have y2 : (w.alloc (Obj.cells #[Value.int IntKind.i64 r, Value.int IntKind.i64 t, Value.int IntKind.i64 n] 30)).cell? ⟨w.heap.size, 2, none⟩ = some (.int .i64 n) := by rw [cell_of_row _ _ 2 _ 30 (0, 0) h1]; rfl
      clear h1
      obtain ⟨m, hm⟩ : ∃ m : Nat, r.natAbs = m := ⟨_, rfl⟩
      have hml : m ≤ 9223372036854775808 := by omega
      have z1 : (S8 (dec m)).size ≤ 19 := by rw [S8_len]; exact dec_len hml
      obtain ⟨mt, hmt⟩ : ∃ m : Nat, t.toNat = m := ⟨_, rfl⟩
      have z2 : (S8 (dec mt)).size ≤ 19 := by rw [S8_len]; exact dec_len (by omega)
      have q0 : ¬ 9223372036854775807 < 6 + (S8 (dec m)).size := by omega
      have q1 : ¬ 9223372036854775807 < 6 + (S8 (dec m)).size + 6 := by omega
      have q2 : ¬ 9223372036854775807 < 6 + (S8 (dec m)).size + 6 + (S8 (dec mt)).size := by omega
      have hS : S8 ([114, 117, 108, 101, 32] ++ num r ++ plc [32, 116, 114, 101, 101, 32] t ++ plc [32, 110, 111, 100, 101, 32] n) = ((((⟨#[114, 117, 108, 101, 32]⟩ : ByteArray) ++ ⟨#[45]⟩) ++ S8 (dec m)) ++ ⟨#[32, 116, 114, 101, 101, 32]⟩ ++ S8 (dec mt)) := by
        rw [show (⟨#[114, 117, 108, 101, 32]⟩ : ByteArray) = S8 [114, 117, 108, 101, 32] from rfl, show (⟨#[45]⟩ : ByteArray) = S8 [45] from rfl, show (⟨#[32, 116, 114, 101, 101, 32]⟩ : ByteArray) = S8 [32, 116, 114, 101, 101, 32] from rfl]
        simp only [S8_app]
        congr 1
        rw [num_neg hneg, hm, plc_pos ht, hmt, plc_neg hn]
        simp
      rw [hS]
      clear hS
      have hF := fun wx => rFrom_any m wx (by omega)
      have hw : IntKind.u64.wrap (-IntKind.u64.wrap r) = (m : Int) := by rw [IntKind.wrap_u64, IntKind.wrap_u64]; omega
      have hti : t = (mt : Int) := by omega
      have hD2 := fun wx => rdigits_any mt wx (by omega)
      subst hti
      clear hm hmt h
      generalize hx : S8 (dec m) = x1 at *
      have Hx : Hid (S8 (dec m) = x1) := hx
      clear hx
      generalize S8 (dec mt) = x2 at *
      go_enter Tryd.func23, Tryd.ntmps23
      go_wp2_with fail
      generalize w.alloc _ = W at kA y1 y2 ⊢
      generalize w.heap.size = g at y1 y2 ⊢
      clear hw
      refine (hF _).mono ?_
      rintro e w1 ⟨v, l, rfl, o1, m1, n1, e1, k1⟩
      obtain ⟨a1, c1, rfl, hc1, r1⟩ := o1.shape
      have hl := few_len n1 e1 hml
      have hP1 := rPrint_any a1 c1 l w1 hc1 (by omega) r1 m1
      rw [e1, Hx.out] at hP1
      clear hF e1 m1 n1 o1
      go_wp2_with fail
      refine hP1.mono ?_
      rintro e w2 ⟨rfl, k2⟩
      have kB := (kA.trans k1).trans k2
      have y1 := k2.cell (k1.cell y1)
      have y2 := k2.cell (k1.cell y2)
      clear hP1
      go_wp2_with fail
      refine (hD2 _).mono ?_
      rintro e w3 ⟨rfl, k3⟩
      have kC := kB.trans k3
      have y2 := k3.cell y2
      clear hD2
      go_wp2_with fail
      go_ret
      exact ⟨rfl, kC⟩
    · have kA : Keep w (w.alloc (Obj.cells #[Value.int IntKind.i64 r, Value.int IntKind.i64 t, Value.int IntKind.i64 n] 30)) := (Keep.refl _).alloc _
      have h1 : (w.alloc (Obj.cells #[Value.int IntKind.i64 r, Value.int IntKind.i64 t, Value.int IntKind.i64 n] 30)).heap[w.heap.size]? = some (Obj.cells #[Value.int IntKind.i64 r, Value.int IntKind.i64 t, Value.int IntKind.i64 n] 30 (0, 0)) := heap_alloc_new w _
      have y1 : (w.alloc (Obj.cells #[Value.int IntKind.i64 r, Value.int IntKind.i64 t, Value.int IntKind.i64 n] 30)).cell? ⟨w.heap.size, 1, none⟩ = some (.int .i64 t) := by rw [cell_of_row _ _ 1 _ 30 (0, 0) h1]; rfl
      have y2 : (w.alloc (Obj.cells #[Value.int IntKind.i64 r, Value.int IntKind.i64 t, Value.int IntKind.i64 n] 30)).cell? ⟨w.heap.size, 2, none⟩ = some (.int .i64 n) := by rw [cell_of_row _ _ 2 _ 30 (0, 0) h1]; rfl
      clear h1
      obtain ⟨m, hm⟩ : ∃ m : Nat, r.natAbs = m := ⟨_, rfl⟩
      have hml : m ≤ 9223372036854775808 := by omega
      have z1 : (S8 (dec m)).size ≤ 19 := by rw [S8_len]; exact dec_len hml
      obtain ⟨mt, hmt⟩ : ∃ m : Nat, t.toNat = m := ⟨_, rfl⟩
      have z2 : (S8 (dec mt)).size ≤ 19 := by rw [S8_len]; exact dec_len (by omega)
      obtain ⟨mn, hmn⟩ : ∃ m : Nat, n.toNat = m := ⟨_, rfl⟩
      have z3 : (S8 (dec mn)).size ≤ 19 := by rw [S8_len]; exact dec_len (by omega)
      have q0 : ¬ 9223372036854775807 < 6 + (S8 (dec m)).size := by omega
      have q1 : ¬ 9223372036854775807 < 6 + (S8 (dec m)).size + 6 := by omega
      have q2 : ¬ 9223372036854775807 < 6 + (S8 (dec m)).size + 6 + (S8 (dec mt)).size := by omega
      have q3 : ¬ 9223372036854775807 < 6 + (S8 (dec m)).size + 6 + (S8 (dec mt)).size + 6 := by omega
      have q4 : ¬ 9223372036854775807 < 6 + (S8 (dec m)).size + 6 + (S8 (dec mt)).size + 6 + (S8 (dec mn)).size := by omega
      have hS : S8 ([114, 117, 108, 101, 32] ++ num r ++ plc [32, 116, 114, 101, 101, 32] t ++ plc [32, 110, 111, 100, 101, 32] n) = (((((⟨#[114, 117, 108, 101, 32]⟩ : ByteArray) ++ ⟨#[45]⟩) ++ S8 (dec m)) ++ ⟨#[32, 116, 114, 101, 101, 32]⟩ ++ S8 (dec mt)) ++ ⟨#[32, 110, 111, 100, 101, 32]⟩ ++ S8 (dec mn)) := by
        rw [show (⟨#[114, 117, 108, 101, 32]⟩ : ByteArray) = S8 [114, 117, 108, 101, 32] from rfl, show (⟨#[45]⟩ : ByteArray) = S8 [45] from rfl, show (⟨#[32, 116, 114, 101, 101, 32]⟩ : ByteArray) = S8 [32, 116, 114, 101, 101, 32] from rfl, show (⟨#[32, 110, 111, 100, 101, 32]⟩ : ByteArray) = S8 [32, 110, 111, 100, 101, 32] from rfl]
        simp only [S8_app]
        congr 1
        rw [num_neg hneg, hm, plc_pos ht, hmt, plc_pos hn, hmn]
        simp
      rw [hS]
      clear hS
      have hF := fun wx => rFrom_any m wx (by omega)
      have hw : IntKind.u64.wrap (-IntKind.u64.wrap r) = (m : Int) := by rw [IntKind.wrap_u64, IntKind.wrap_u64]; omega
      have hti : t = (mt : Int) := by omega
      have hD2 := fun wx => rdigits_any mt wx (by omega)
      have hni : n = (mn : Int) := by omega
      have hD3 := fun wx => rdigits_any mn wx (by omega)
      subst hti
      subst hni
      clear hm hmt hmn h
      generalize hx : S8 (dec m) = x1 at *
      have Hx : Hid (S8 (dec m) = x1) := hx
      clear hx
      generalize S8 (dec mt) = x2 at *
      generalize S8 (dec mn) = x3 at *
      go_enter Tryd.func23, Tryd.ntmps23
      go_wp2_with fail
      generalize w.alloc _ = W at kA y1 y2 ⊢
      generalize w.heap.size = g at y1 y2 ⊢
      clear hw
      refine (hF _).mono ?_
      rintro e w1 ⟨v, l, rfl, o1, m1, n1, e1, k1⟩
      obtain ⟨a1, c1, rfl, hc1, r1⟩ := o1.shape
      have hl := few_len n1 e1 hml
      have hP1 := rPrint_any a1 c1 l w1 hc1 (by omega) r1 m1
      rw [e1, Hx.out] at hP1
      clear hF e1 m1 n1 o1
      go_wp2_with fail
      refine hP1.mono ?_
      rintro e w2 ⟨rfl, k2⟩
      have kB := (kA.trans k1).trans k2
      have y1 := k2.cell (k1.cell y1)
      have y2 := k2.cell (k1.cell y2)
      clear hP1
      go_wp2_with fail
      refine (hD2 _).mono ?_
      rintro e w3 ⟨rfl, k3⟩
      have kC := kB.trans k3
      have y2 := k3.cell y2
      clear hD2
      go_wp2_with fail
      refine (hD3 _).mono ?_
      rintro e w4 ⟨rfl, k4⟩
      have kD := kC.trans k4
      clear hD3
      go_wp2_with fail
      go_ret
      exact ⟨rfl, kD⟩
    · have kA : Keep w (w.alloc (Obj.cells #[Value.int IntKind.i64 r, Value.int IntKind.i64 t, Value.int IntKind.i64 n] 30)) := (Keep.refl _).alloc _
      have h1 : (w.alloc (Obj.cells #[Value.int IntKind.i64 r, Value.int IntKind.i64 t, Value.int IntKind.i64 n] 30)).heap[w.heap.size]? = some (Obj.cells #[Value.int IntKind.i64 r, Value.int IntKind.i64 t, Value.int IntKind.i64 n] 30 (0, 0)) := heap_alloc_new w _
      have y1 : (w.alloc (Obj.cells #[Value.int IntKind.i64 r, Value.int IntKind.i64 t, Value.int IntKind.i64 n] 30)).cell? ⟨w.heap.size, 1, none⟩ = some (.int .i64 t) := by rw [cell_of_row _ _ 1 _ 30 (0, 0) h1]; rfl
      have y2 : (w.alloc (Obj.cells #[Value.int IntKind.i64 r, Value.int IntKind.i64 t, Value.int IntKind.i64 n] 30)).cell? ⟨w.heap.size, 2, none⟩ = some (.int .i64 n) := by rw [cell_of_row _ _ 2 _ 30 (0, 0) h1]; rfl
      clear h1
      obtain ⟨m, hm⟩ : ∃ m : Nat, r.toNat = m := ⟨_, rfl⟩
      have hml : m ≤ 9223372036854775808 := by omega
      have z1 : (S8 (dec m)).size ≤ 19 := by rw [S8_len]; exact dec_len hml
      have q0 : ¬ 9223372036854775807 < 5 + (S8 (dec m)).size := by omega
      have hS : S8 ([114, 117, 108, 101, 32] ++ num r ++ plc [32, 116, 114, 101, 101, 32] t ++ plc [32, 110, 111, 100, 101, 32] n) = ((⟨#[114, 117, 108, 101, 32]⟩ : ByteArray) ++ S8 (dec m)) := by
        rw [show (⟨#[114, 117, 108, 101, 32]⟩ : ByteArray) = S8 [114, 117, 108, 101, 32] from rfl]
        simp only [S8_app]
        congr 1
        rw [num_pos hneg, hm, plc_neg ht, plc_neg hn]
        simp
      rw [hS]
      clear hS
      have hri : r = (m : Int) := by omega
      have hD := fun wx => rdigits_any m wx (by omega)
      subst hri
      clear hm h
      generalize S8 (dec m) = x1 at *
      go_enter Tryd.func23, Tryd.ntmps23
      go_wp2_with fail
      generalize w.alloc _ = W at kA y1 y2 ⊢
      generalize w.heap.size = g at y1 y2 ⊢
      refine (hD _).mono ?_
      rintro e w2 ⟨rfl, k2⟩
      have kB := kA.trans k2
      have y1 := k2.cell y1
      have y2 := k2.cell y2
      clear hD
      go_wp2_with fail
      go_ret
      exact ⟨rfl, kB⟩
    · have kA : Keep w (w.alloc (Obj.cells #[Value.int IntKind.i64 r, Value.int IntKind.i64 t, Value.int IntKind.i64 n] 30)) := (Keep.refl _).alloc _
      have h1 : (w.alloc (Obj.cells #[Value.int IntKind.i64 r, Value.int IntKind.i64 t, Value.int IntKind.i64 n] 30)).heap[w.heap.size]? = some (Obj.cells #[Value.int IntKind.i64 r, Value.int IntKind.i64 t, Value.int IntKind.i64 n] 30 (0, 0)) := heap_alloc_new w _
      have y1 : (w.alloc (Obj.cells #[Value.int IntKind.i64 r, Value.int IntKind.i64 t, Value.int IntKind.i64 n] 30)).cell? ⟨w.heap.size, 1, none⟩ = some (.int .i64 t) := by rw [cell_of_row _ _ 1 _ 30 (0, 0) h1]; rfl
      have y2 : (w.alloc (Obj.cells #[Value.int IntKind.i64 r, Value.int IntKind.i64 t, Value.int IntKind.i64 n] 30)).cell? ⟨w.heap.size, 2, none⟩ = some (.int .i64 n) := by rw [cell_of_row _ _ 2 _ 30 (0, 0) h1]; rfl
      clear h1
      obtain ⟨m, hm⟩ : ∃ m : Nat, r.toNat = m := ⟨_, rfl⟩
      have hml : m ≤ 9223372036854775808 := by omega
      have z1 : (S8 (dec m)).size ≤ 19 := by rw [S8_len]; exact dec_len hml
      obtain ⟨mn, hmn⟩ : ∃ m : Nat, n.toNat = m := ⟨_, rfl⟩
      have z3 : (S8 (dec mn)).size ≤ 19 := by rw [S8_len]; exact dec_len (by omega)
      have q0 : ¬ 9223372036854775807 < 5 + (S8 (dec m)).size := by omega
      have q1 : ¬ 9223372036854775807 < 5 + (S8 (dec m)).size + 6 := by omega
      have q2 : ¬ 9223372036854775807 < 5 + (S8 (dec m)).size + 6 + (S8 (dec mn)).size := by omega
      have hS : S8 ([114, 117, 108, 101, 32] ++ num r ++ plc [32, 116, 114, 101, 101, 32] t ++ plc [32, 110, 111, 100, 101, 32] n) = (((⟨#[114, 117, 108, 101, 32]⟩ : ByteArray) ++ S8 (dec m)) ++ ⟨#[32, 110, 111, 100, 101, 32]⟩ ++ S8 (dec mn)) := by
        rw [show (⟨#[114, 117, 108, 101, 32]⟩ : ByteArray) = S8 [114, 117, 108, 101, 32] from rfl, show (⟨#[32, 110, 111, 100, 101, 32]⟩ : ByteArray) = S8 [32, 110, 111, 100, 101, 32] from rfl]
        simp only [S8_app]
        congr 1
        rw [num_pos hneg, hm, plc_neg ht, plc_pos hn, hmn]
        simp
      rw [hS]
      clear hS
      have hri : r = (m : Int) := by omega
      have hD := fun wx => rdigits_any m wx (by omega)
      have hni : n = (mn : Int) := by omega
      have hD3 := fun wx => rdigits_any mn wx (by omega)
      subst hri
      subst hni
      clear hm hmn h
      generalize S8 (dec m) = x1 at *
      generalize S8 (dec mn) = x3 at *
      go_enter Tryd.func23, Tryd.ntmps23
      go_wp2_with fail
      generalize w.alloc _ = W at kA y1 y2 ⊢
      generalize w.heap.size = g at y1 y2 ⊢
      refine (hD _).mono ?_
      rintro e w2 ⟨rfl, k2⟩
      have kB := kA.trans k2
      have y1 := k2.cell y1
      have y2 := k2.cell y2
      clear hD
      go_wp2_with fail
      refine (hD3 _).mono ?_
      rintro e w4 ⟨rfl, k4⟩
      have kD := kB.trans k4
      clear hD3
      go_wp2_with fail
      go_ret
      exact ⟨rfl, kD⟩
    · have kA : Keep w (w.alloc (Obj.cells #[Value.int IntKind.i64 r, Value.int IntKind.i64 t, Value.int IntKind.i64 n] 30)) := (Keep.refl _).alloc _
      have h1 : (w.alloc (Obj.cells #[Value.int IntKind.i64 r, Value.int IntKind.i64 t, Value.int IntKind.i64 n] 30)).heap[w.heap.size]? = some (Obj.cells #[Value.int IntKind.i64 r, Value.int IntKind.i64 t, Value.int IntKind.i64 n] 30 (0, 0)) := heap_alloc_new w _
      have y1 : (w.alloc (Obj.cells #[Value.int IntKind.i64 r, Value.int IntKind.i64 t, Value.int IntKind.i64 n] 30)).cell? ⟨w.heap.size, 1, none⟩ = some (.int .i64 t) := by rw [cell_of_row _ _ 1 _ 30 (0, 0) h1]; rfl
      have y2 : (w.alloc (Obj.cells #[Value.int IntKind.i64 r, Value.int IntKind.i64 t, Value.int IntKind.i64 n] 30)).cell? ⟨w.heap.size, 2, none⟩ = some (.int .i64 n) := by rw [cell_of_row _ _ 2 _ 30 (0, 0) h1]; rfl
      clear h1
      obtain ⟨m, hm⟩ : ∃ m : Nat, r.toNat = m := ⟨_, rfl⟩
      have hml : m ≤ 9223372036854775808 := by omega
      have z1 : (S8 (dec m)).size ≤ 19 := by rw [S8_len]; exact dec_len hml
      obtain ⟨mt, hmt⟩ : ∃ m : Nat, t.toNat = m := ⟨_, rfl⟩
      have z2 : (S8 (dec mt)).size ≤ 19 := by rw [S8_len]; exact dec_len (by omega)
      have q0 : ¬ 9223372036854775807 < 5 + (S8 (dec m)).size := by omega
      have q1 : ¬ 9223372036854775807 < 5 + (S8 (dec m)).size + 6 := by omega
      have q2 : ¬ 9223372036854775807 < 5 + (S8 (dec m)).size + 6 + (S8 (dec mt)).size := by omega
      have hS : S8 ([114, 117, 108, 101, 32] ++ num r ++ plc [32, 116, 114, 101, 101, 32] t ++ plc [32, 110, 111, 100, 101, 32] n) = (((⟨#[114, 117, 108, 101, 32]⟩ : ByteArray) ++ S8 (dec m)) ++ ⟨#[32, 116, 114, 101, 101, 32]⟩ ++ S8 (dec mt)) := by
        rw [show (⟨#[114, 117, 108, 101, 32]⟩ : ByteArray) = S8 [114, 117, 108, 101, 32] from rfl, show (⟨#[32, 116, 114, 101, 101, 32]⟩ : ByteArray) = S8 [32, 116, 114, 101, 101, 32] from rfl]
        simp only [S8_app]
        congr 1
        rw [num_pos hneg, hm, plc_pos ht, hmt, plc_neg hn]
        simp
      rw [hS]
      clear hS
      have hri : r = (m : Int) := by omega
      have hD := fun wx => rdigits_any m wx (by omega)
      have hti : t = (mt : Int) := by omega
      have hD2 := fun wx => rdigits_any mt wx (by omega)
      subst hri
      subst hti
      clear hm hmt h
      generalize S8 (dec m) = x1 at *
      generalize S8 (dec mt) = x2 at *
      go_enter Tryd.func23, Tryd.ntmps23
      go_wp2_with fail
      generalize w.alloc _ = W at kA y1 y2 ⊢
      generalize w.heap.size = g at y1 y2 ⊢
      refine (hD _).mono ?_
      rintro e w2 ⟨rfl, k2⟩
      have kB := kA.trans k2
      have y1 := k2.cell y1
      have y2 := k2.cell y2
      clear hD
      go_wp2_with fail
      refine (hD2 _).mono ?_
      rintro e w3 ⟨rfl, k3⟩
      have kC := kB.trans k3
      have y2 := k3.cell y2
      clear hD2
      go_wp2_with fail
      go_ret
      exact ⟨rfl, kC⟩
    · have kA : Keep w (w.alloc (Obj.cells #[Value.int IntKind.i64 r, Value.int IntKind.i64 t, Value.int IntKind.i64 n] 30)) := (Keep.refl _).alloc _
      have h1 : (w.alloc (Obj.cells #[Value.int IntKind.i64 r, Value.int IntKind.i64 t, Value.int IntKind.i64 n] 30)).heap[w.heap.size]? = some (Obj.cells #[Value.int IntKind.i64 r, Value.int IntKind.i64 t, Value.int IntKind.i64 n] 30 (0, 0)) := heap_alloc_new w _
      have y1 : (w.alloc (Obj.cells #[Value.int IntKind.i64 r, Value.int IntKind.i64 t, Value.int IntKind.i64 n] 30)).cell? ⟨w.heap.size, 1, none⟩ = some (.int .i64 t) := by rw [cell_of_row _ _ 1 _ 30 (0, 0) h1]; rfl
      have y2 : (w.alloc (Obj.cells #[Value.int IntKind.i64 r, Value.int IntKind.i64 t, Value.int IntKind.i64 n] 30)).cell? ⟨w.heap.size, 2, none⟩ = some (.int .i64 n) := by rw [cell_of_row _ _ 2 _ 30 (0, 0) h1]; rfl
      clear h1
      obtain ⟨m, hm⟩ : ∃ m : Nat, r.toNat = m := ⟨_, rfl⟩
      have hml : m ≤ 9223372036854775808 := by omega
      have z1 : (S8 (dec m)).size ≤ 19 := by rw [S8_len]; exact dec_len hml
      obtain ⟨mt, hmt⟩ : ∃ m : Nat, t.toNat = m := ⟨_, rfl⟩
      have z2 : (S8 (dec mt)).size ≤ 19 := by rw [S8_len]; exact dec_len (by omega)
      obtain ⟨mn, hmn⟩ : ∃ m : Nat, n.toNat = m := ⟨_, rfl⟩
      have z3 : (S8 (dec mn)).size ≤ 19 := by rw [S8_len]; exact dec_len (by omega)
      have q0 : ¬ 9223372036854775807 < 5 + (S8 (dec m)).size := by omega
      have q1 : ¬ 9223372036854775807 < 5 + (S8 (dec m)).size + 6 := by omega
      have q2 : ¬ 9223372036854775807 < 5 + (S8 (dec m)).size + 6 + (S8 (dec mt)).size := by omega
      have q3 : ¬ 9223372036854775807 < 5 + (S8 (dec m)).size + 6 + (S8 (dec mt)).size + 6 := by omega
      have q4 : ¬ 9223372036854775807 < 5 + (S8 (dec m)).size + 6 + (S8 (dec mt)).size + 6 + (S8 (dec mn)).size := by omega
      have hS : S8 ([114, 117, 108, 101, 32] ++ num r ++ plc [32, 116, 114, 101, 101, 32] t ++ plc [32, 110, 111, 100, 101, 32] n) = ((((⟨#[114, 117, 108, 101, 32]⟩ : ByteArray) ++ S8 (dec m)) ++ ⟨#[32, 116, 114, 101, 101, 32]⟩ ++ S8 (dec mt)) ++ ⟨#[32, 110, 111, 100, 101, 32]⟩ ++ S8 (dec mn)) := by
        rw [show (⟨#[114, 117, 108, 101, 32]⟩ : ByteArray) = S8 [114, 117, 108, 101, 32] from rfl, show (⟨#[32, 116, 114, 101, 101, 32]⟩ : ByteArray) = S8 [32, 116, 114, 101, 101, 32] from rfl, show (⟨#[32, 110, 111, 100, 101, 32]⟩ : ByteArray) = S8 [32, 110, 111, 100, 101, 32] from rfl]
        simp only [S8_app]
        congr 1
        rw [num_pos hneg, hm, plc_pos ht, hmt, plc_pos hn, hmn]
        simp
      rw [hS]
      clear hS
      have hri : r = (m : Int) := by omega
      have hD := fun wx => rdigits_any m wx (by omega)
      have hti : t = (mt : Int) := by omega
      have hD2 := fun wx => rdigits_any mt wx (by omega)
      have hni : n = (mn : Int) := by omega
      have hD3 := fun wx => rdigits_any mn wx (by omega)
      subst hri
      subst hti
      subst hni
      clear hm hmt hmn h
      generalize S8 (dec m) = x1 at *
      generalize S8 (dec mt) = x2 at *
      generalize S8 (dec mn) = x3 at *
      go_enter Tryd.func23, Tryd.ntmps23
      go_wp2_with fail
      generalize w.alloc _ = W at kA y1 y2 ⊢
      generalize w.heap.size = g at y1 y2 ⊢
      refine (hD _).mono ?_
      rintro e w2 ⟨rfl, k2⟩
      have kB := kA.trans k2
      have y1 := k2.cell y1
      have y2 := k2.cell y2
      clear hD
      go_wp2_with fail
      refine (hD2 _).mono ?_
      rintro e w3 ⟨rfl, k3⟩
      have kC := kB.trans k3
      have y2 := k3.cell y2
      clear hD2
      go_wp2_with fail
      refine (hD3 _).mono ?_
      rintro e w4 ⟨rfl, k4⟩
      have kD := kC.trans k4
      clear hD3
      go_wp2_with fail
      go_ret
      exact ⟨rfl, kD⟩
end Go.Proofs.YtckceokgeainlaaDoor
