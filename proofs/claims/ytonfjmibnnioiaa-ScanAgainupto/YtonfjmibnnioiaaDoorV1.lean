import Derived.Test.YtonfjmibnnioiaaDoorU4
set_option linter.unusedVariables false
set_option linter.unusedSimpArgs false
namespace Go.Proofs.YtonfjmibnnioiaaDoor
open Go.RowKit Go.Shelf
theorem heap3 {T : Nat} (w : World) (g : Nat) {x0 x1 x2 : Value} (v0 v1 v2 : Value) (h : w.heap[g]? = some (.cells #[x0, x1, x2] T (0, 0))) :
    (((w.setCell ⟨g, 0, none⟩ v0).setCell ⟨g, 1, none⟩ v1).setCell ⟨g, 2, none⟩ v2).heap[g]? = some (.cells #[v0, v1, v2] T (0, 0)) := by
  have a0 := heap_setCell_same w g 0 _ T v0 h
  have a1 := heap_setCell_same _ g 1 _ T v1 a0
  have a2 := heap_setCell_same _ g 2 _ T v2 a1
  simpa using a2
theorem keep3 {w w' : World} (k : Keep w w') (g : Nat) (h : w.heap.size ≤ g) (v0 v1 v2 : Value) : Keep w (((w'.setCell ⟨g, 0, none⟩ v0).setCell ⟨g, 1, none⟩ v1).setCell ⟨g, 2, none⟩ v2) :=
  ((k.setCell (p := ⟨g, 0, none⟩) h v0).setCell (p := ⟨g, 1, none⟩) h v1).setCell (p := ⟨g, 2, none⟩) h v2
theorem cells3 {T : Nat} {w : World} {g : Nat} {x0 x1 x2 : Value} (h : w.heap[g]? = some (.cells #[x0, x1, x2] T (0, 0))) : w.cell? ⟨g, 0, none⟩ = some x0 ∧ w.cell? ⟨g, 1, none⟩ = some x1 ∧ w.cell? ⟨g, 2, none⟩ = some x2 ∧ w.frozen? ⟨g, 0, none⟩ = false ∧ w.frozen? ⟨g, 1, none⟩ = false ∧ w.frozen? ⟨g, 2, none⟩ = false :=
  ⟨by rw [cell_of_row _ _ 0 _ T (0, 0) h]; rfl, by rw [cell_of_row _ _ 1 _ T (0, 0) h]; rfl, by rw [cell_of_row _ _ 2 _ T (0, 0) h]; rfl, frozen_of_row _ _ 0 _ T h, frozen_of_row _ _ 1 _ T h, frozen_of_row _ _ 2 _ T h⟩
theorem boxed (w : World) (cs : Array Value) (T : Nat) : ∃ w1, w.alloc (Obj.cells cs T) = w1 ∧ Keep w w1 ∧ w1.heap[w.heap.size]? = some (Obj.cells cs T (0, 0)) ∧ w1.heap.size = w.heap.size + 1 := ⟨_, rfl, (Keep.refl w).alloc _, heap_alloc_new w _, by simp⟩
theorem lt_of_at {w : World} {g : Nat} {o : Obj} (h : w.heap[g]? = some o) : g < w.heap.size := (Array.getElem?_eq_some_iff.1 h).1
/-- A word, an error, a place: the answer of three. -/
theorem ret_word {fn : Func} {t u v : Tmp} (h : fn.results = #[.cell t 44, .tmp u, .tmp v]) (tmps : Array Value) (w : World) (g : Nat) (v0 v1 v2 : Value) (hp : tmps.getD t undef = .pointer (some ⟨g, 0, none⟩)) (hh : w.heap[g]? = some (.cells #[v0, v1, v2] 44 (0, 0))) :
    (results fn tmps).run Tryd.prog w = .ok (.tuple #[.agg #[v0, v1, v2], tmps.getD u undef, tmps.getD v undef]) w := by
  have c0 := cell_of_row _ _ 0 _ 44 (0, 0) hh
  have c1 := cell_of_row _ _ 1 _ 44 (0, 0) hh
  have c2 := cell_of_row _ _ 2 _ 44 (0, 0) hh
  simp only [List.getElem?_toArray, List.getElem?_cons_zero, List.getElem?_cons_succ] at c0 c1 c2
  have hp' : (tmps[t]?).getD undef = .pointer (some ⟨g, 0, none⟩) := by simpa using hp
  simp [results, h, hp, hp', go_sem, c0, c1, c2]
/-- What firstWord answers. -/
def fwV (x : WR) : Value := match x with
  | .ok k t n => .tuple #[.agg #[.int .u8 (k : Nat), .string ⟨t.toArray⟩, .int .i64 0], .int .i64 0, .int .i64 (n : Nat)]
  | .bad e n => .tuple #[.agg #[.int .u8 0, .string ⟨#[]⟩, .int .i64 0], .int .i64 (e : Nat), .int .i64 (n : Nat)]
set_option maxRecDepth 100000 in
theorem asWritten_any (k : Nat) (l : List UInt8) (n : Nat) (w : World) (hn : n ≤ l.length) (hl : l.length ≤ 1099511627776) : Calls Tryd.prog 54 #[.int .u8 (k : Nat), .string ⟨l.toArray⟩, .int .i64 (n : Nat)] w fun e w' => e = .returned (fwV (.ok k (l.take n) n)) ∧ Keep w w' := by
  obtain ⟨w1, hw1, k1, t1, s1⟩ := boxed w #[.int .u8 0, .string ⟨#[]⟩, .int .i64 0] 44
  have hsl := run_upto l n hn
  have hC := Clone_any (l.take n) w1 (by rw [List.length_take]; omega)
  have hz : w.heap.size < w1.heap.size := by omega
  generalize l.take n = t at *
  go_enter Tryd.func54, Tryd.ntmps54
  go_wp2_with (first
    | rw [hw1]
    | rw [hsl]
    | (go_at_call 31; refine hC.mono ?_; rintro e w2 ⟨rfl, k2⟩
       have t2 := k2.at t1
       obtain ⟨c0, c1, c2, f0, f1, f2⟩ := cells3 t2))
  have h := heap3 w2 w.heap.size (.int .u8 (k : Nat)) (.string ⟨t.toArray⟩) (.int .i64 0) t2
  have kk := keep3 (k1.trans k2) w.heap.size (Nat.le_refl _) (.int .u8 (k : Nat)) (.string ⟨t.toArray⟩) (.int .i64 0)
  exact bodyPost_ret (ret_word rfl _ _ w.heap.size _ _ _ rfl h) rfl ⟨rfl, kk⟩
/-- How many bytes a mark takes. -/
def mkN (c : UInt8) (r : List UInt8) : Nat := if (c = 60 ∨ c = 62 ∨ c = 33) ∧ r.head? = some 61 then 2 else if kd c = 7 then 0 else 1
theorem ix_mark (c : UInt8) : decide ((0 : Int) ≤ ixB [60, 62, 33] c) = decide (c = 60 ∨ c = 62 ∨ c = 33) := by
  unfold ixB
  rw [decide_eq_decide]
  have hm : c ∈ ([60, 62, 33] : List UInt8) ↔ (c = 60 ∨ c = 62 ∨ c = 33) := by simp
  by_cases h : c ∈ ([60, 62, 33] : List UInt8)
  · rw [if_pos h]; exact ⟨fun _ => hm.1 h, fun _ => by omega⟩
  · rw [if_neg h]; exact ⟨fun e => by omega, fun e => absurd (hm.2 e) h⟩
set_option maxRecDepth 100000 in
theorem markLength_any (c : UInt8) (r : List UInt8) (w : World) (hT : Kt w) (hs : r.length ≤ 1099511627776) : Calls Tryd.prog 56 #[.string ⟨(c :: r).toArray⟩] w fun e w' => e = .returned (.int .i64 (mkN c r : Nat)) ∧ w' = w := by
  obtain ⟨l, hl⟩ : ∃ l : List UInt8, l = c :: r := ⟨_, rfl⟩
  have hln : l.length = r.length + 1 := by rw [hl]; rfl
  have hsz := sz_mk l
  rw [← hl]
  have hx0 : ∀ w, (Instr.index 9 (.string ⟨l.toArray⟩) (.int .i64 0)).run Tryd.prog w = .ok (.int .u8 (c.toNat : Nat)) w := fun w => by
    have := run_ix l 0 (by omega) w
    rw [hl] at this ⊢
    exact this
  have hI := IndexByte_any [60, 62, 33] c w
  have hq := ix_mark c
  have hK := kindOf_any c w hT
  have hk7 : ((kd c : Int) == 7) = decide (kd c = 7) := by rw [Bool.eq_iff_iff]; simp only [beq_iff_eq, decide_eq_true_eq]; omega
  generalize ixB [60, 62, 33] c = ix at *
  cases r with
  | nil =>
    have hE : decide ((1 : Int) < (l.length : Int)) = false := decide_eq_false (by rw [hln]; simp)
    have H : Hid (mkN c [] = if kd c = 7 then 0 else 1) := by unfold Hid mkN; rw [if_neg (fun h => by simp at h)]
    replace hl : Hid _ := hl
    clear hln
    generalize mkN c [] = m at *
    generalize c.toNat = n at *
    by_cases h7 : kd c = 7
    · rw [if_pos h7] at H
      rw [decide_eq_true h7] at hk7
      clear h7
      generalize kd c = kc at *
      go_enter Tryd.func56, Tryd.ntmps56
      go_wp2_with (go_at_call 32; refine hK.mono ?_; rintro e w0 ⟨rfl, hw0⟩; rw [hw0]; clear hw0)
      go_ret
      exact ⟨by rw [H.out]; rfl, rfl⟩
    · rw [if_neg h7] at H
      rw [decide_eq_false h7] at hk7
      clear h7
      generalize kd c = kc at *
      go_enter Tryd.func56, Tryd.ntmps56
      go_wp2_with (go_at_call 32; refine hK.mono ?_; rintro e w0 ⟨rfl, hw0⟩; rw [hw0]; clear hw0)
      go_ret
      exact ⟨by rw [H.out]; rfl, rfl⟩
  | cons d r2 =>
    have hE : decide ((1 : Int) < (l.length : Int)) = true := decide_eq_true (by rw [hln, List.length_cons]; omega)
    have hx1 : ∀ w, (Instr.index 9 (.string ⟨l.toArray⟩) (.int .i64 1)).run Tryd.prog w = .ok (.int .u8 (d.toNat : Nat)) w := fun w => by
      have := run_ix l 1 (by rw [hln, List.length_cons]; omega) w
      rw [hl] at this ⊢
      exact this
    have hd : ((d.toNat : Int) == 61) = decide (d = 61) := by rw [← ub_eq d 61]; rfl
    have H : Hid (mkN c (d :: r2) = if decide (c = 60 ∨ c = 62 ∨ c = 33) = true ∧ decide (d = 61) = true then 2 else if decide (kd c = 7) = true then 0 else 1) := by
      unfold Hid mkN; simp
    replace hl : Hid _ := hl
    clear hln
    generalize mkN c (d :: r2) = m at *
    generalize decide (c = 60 ∨ c = 62 ∨ c = 33) = b1 at *
    generalize decide (d = 61) = b2 at *
    generalize decide (kd c = 7) = b3 at *
    generalize c.toNat = n at *
    generalize d.toNat = n2 at *
    generalize kd c = kc at *
    cases b1 <;> cases b2 <;> cases b3 <;>
      (go_enter Tryd.func56, Tryd.ntmps56
       go_wp2_with (first
         | (go_at_call 32; refine hK.mono ?_; rintro e w0 ⟨rfl, hw0⟩; rw [hw0]; clear hw0)
         | (go_at_call 60; refine hI.mono ?_; rintro e w0 ⟨rfl, hw0⟩; rw [hw0]; clear hw0))
       go_ret
       exact ⟨by rw [H.out]; rfl, rfl⟩)
end Go.Proofs.YtonfjmibnnioiaaDoor
