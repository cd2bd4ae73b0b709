import Derived.Test.YtbchinfmdioijaaX4
set_option linter.unusedVariables false
set_option linter.unusedSimpArgs false
namespace Go.Proofs.Ytbchinfmdioijaa
open Go.RowKit Go.Shelf
theorem NaN_any (w : World) : Calls Try.prog 47 #[] w fun e w' => e = .returned (.float .f64 9221120237041090561) ∧ w' = w := by
  have hf : ∀ w : World, (callFunc 78 #[.int .u64 9221120237041090561]).run Try.prog w = .ok (.value (.float .f64 9221120237041090561)) w := f64from 9221120237041090561
  go_enter Try.func47, Try.ntmps47
  go_wp2_with fail
  go_ret
  exact ⟨rfl, rfl⟩
/-- The document's example. -/
def smpL : List Nd := [⟨2, 0, 1, 4602678819172646912, [], 2, 2, 1⟩, ⟨1, 30, 0, 0, [], 0, 0, 0⟩, ⟨3, 0, 0, 0, [1, 3], 1, 3, 4⟩, ⟨1, 10, 0, 0, [], 0, 0, 0⟩, ⟨1, 20, 0, 0, [], 0, 0, 0⟩]
theorem smp_shE : shE smpL = 0 := by decide +kernel
theorem smp_lvs : lvs smpL = [3, 4, 1] := by decide +kernel
theorem smp_lf : lfK smpL [4611686018427387904, 4602678819172646912] = 1 ∧ lfV smpL [4611686018427387904, 4602678819172646912] = 20 ∧ wyE smpL 2 = 0 := by decide +kernel
theorem smp_sc : scS 2 1 [7] [(0, smpL)] [0, 9221120237041090561] = ([37], 0) := by decide +kernel
theorem smp_gs : gsS (smpL.getD 0 nd0) 4602678819172646912 = 1 := by decide +kernel
def smpC (w : World) : Array Value := #[.int .u8 2, .int .i64 0, .int .i64 1, .float .f64 4602678819172646912, .slice none 0 0, .int .u8 2, .int .i64 2, .int .i64 1, .int .u8 1, .int .i64 30, .int .i64 0, .float .f64 0, .slice none 0 0, .int .u8 0, .int .i64 0, .int .i64 0, .int .u8 3, .int .i64 0, .int .i64 0, .float .f64 0, .slice (some ⟨w.heap.size + 1, 0, none⟩) 2 2, .int .u8 1, .int .i64 3, .int .i64 4, .int .u8 1, .int .i64 10, .int .i64 0, .float .f64 0, .slice none 0 0, .int .u8 0, .int .i64 0, .int .i64 0, .int .u8 1, .int .i64 20, .int .i64 0, .float .f64 0, .slice none 0 0, .int .u8 0, .int .i64 0, .int .i64 0]
set_option maxRecDepth 100000 in
set_option maxHeartbeats 1000000 in
theorem sample_any (w : World) : Calls Try.prog 46 #[] w fun e w' => ∃ a, e = .returned (.agg #[.int .i64 0, .slice a 5 5]) ∧ RdN w' a smpL ∧ Keep w w' := by
  go_enter Try.func46, Try.ntmps46
  go_wp2_with fail
  have hw : ∃ W, (((w.alloc (Obj.cells #[Value.int IntKind.i64 0, Value.slice (some ⟨w.heap.size + 1 + 1, 0, none⟩) 5 5] 24)).alloc (Obj.cells #[Value.int IntKind.i64 1, Value.int IntKind.i64 3] 3)).alloc (Obj.cells (smpC w) 40)) = W ∧ Keep w W ∧ W.heap[w.heap.size]? = some (Obj.cells #[Value.int IntKind.i64 0, Value.slice (some ⟨w.heap.size + 1 + 1, 0, none⟩) 5 5] 24 (0, 0)) ∧ W.heap[w.heap.size + 1]? = some (Obj.cells #[Value.int IntKind.i64 1, Value.int IntKind.i64 3] 3 (0, 0)) ∧ W.heap[w.heap.size + 1 + 1]? = some (Obj.cells (smpC w) 40 (0, 0)) := by
    refine ⟨_, rfl, (((Keep.refl w).alloc _).alloc _).alloc _, ?_, ?_, ?_⟩
    · exact (Below.heap_alloc _ _ _ (by simp; omega)).trans ((Below.heap_alloc _ _ _ (by simp)).trans (heap_alloc_new w _))
    · have := heap_alloc_new (w.alloc (Obj.cells #[Value.int IntKind.i64 0, Value.slice (some ⟨w.heap.size + 1 + 1, 0, none⟩) 5 5] 24)) (Obj.cells #[Value.int IntKind.i64 1, Value.int IntKind.i64 3] 3)
      rw [World.size_alloc] at this
      exact (Below.heap_alloc _ _ _ (by simp)).trans this
    · have := heap_alloc_new ((w.alloc (Obj.cells #[Value.int IntKind.i64 0, Value.slice (some ⟨w.heap.size + 1 + 1, 0, none⟩) 5 5] 24)).alloc (Obj.cells #[Value.int IntKind.i64 1, Value.int IntKind.i64 3] 3)) (Obj.cells (smpC w) 40)
      rw [World.size_alloc, World.size_alloc] at this
      exact this
  obtain ⟨W, hW, kW, b0, b1, b2⟩ := hw
  unfold smpC at hW
  rw [hW]
  have r0 : W.cell? ⟨w.heap.size, 0, none⟩ = some (.int .i64 0) := by rw [cell_of_row _ _ 0 _ 24 (0, 0) b0]; rfl
  have r1 : W.cell? ⟨w.heap.size, 1, none⟩ = some (.slice (some ⟨w.heap.size + 1 + 1, 0, none⟩) 5 5) := by rw [cell_of_row _ _ 1 _ 24 (0, 0) b0]; rfl
  refine bodyPost_ret (v := .agg #[.int .i64 0, .slice (some ⟨w.heap.size + 1 + 1, 0, none⟩) 5 5]) (by simp [results, Try.results46, go_sem, r0, r1]) rfl ?_
  refine ⟨_, rfl, ?_, kW⟩
  have cell : ∀ j v, (smpC w)[j]? = some v → W.cell? ⟨w.heap.size + 1 + 1, j, none⟩ = some v := fun j v h => by rw [cell_of_row _ _ j _ 40 (0, 0) b2]; exact h
  have none0 : ∀ a, RdI W a [] := RdI.nil W
  have two : RdI W (some ⟨w.heap.size + 1, 0, none⟩) [1, 3] := by
    intro j hj
    refine ⟨_, _, rfl, ?_⟩
    rw [Nat.zero_add, cell_of_row _ _ j _ 3 (0, 0) b1]
    match j, hj with
    | 0, _ => rfl
    | 1, _ => rfl
  intro j hj
  have fits : ∀ n ∈ smpL, n.Fit := by
    intro n hn
    simp only [smpL, List.mem_cons, List.not_mem_nil, or_false] at hn
    rcases hn with rfl | rfl | rfl | rfl | rfl <;> constructor <;> simp
  match j, hj with
  | 0, _ => exact ⟨_, _, none, 0, rfl, cell 0 _ rfl, cell 1 _ rfl, cell 2 _ rfl, cell 3 _ rfl, cell 4 _ rfl, cell 5 _ rfl, cell 6 _ rfl, cell 7 _ rfl, none0 _, by decide, by decide, fits _ (by simp [smpL])⟩
  | 1, _ => exact ⟨_, _, none, 0, rfl, cell 8 _ rfl, cell 9 _ rfl, cell 10 _ rfl, cell 11 _ rfl, cell 12 _ rfl, cell 13 _ rfl, cell 14 _ rfl, cell 15 _ rfl, none0 _, by decide, by decide, fits _ (by simp [smpL])⟩
  | 2, _ => exact ⟨_, _, _, 2, rfl, cell 16 _ rfl, cell 17 _ rfl, cell 18 _ rfl, cell 19 _ rfl, cell 20 _ rfl, cell 21 _ rfl, cell 22 _ rfl, cell 23 _ rfl, two, by decide, by decide, fits _ (by simp [smpL])⟩
  | 3, _ => exact ⟨_, _, none, 0, rfl, cell 24 _ rfl, cell 25 _ rfl, cell 26 _ rfl, cell 27 _ rfl, cell 28 _ rfl, cell 29 _ rfl, cell 30 _ rfl, cell 31 _ rfl, none0 _, by decide, by decide, fits _ (by simp [smpL])⟩
  | 4, _ => exact ⟨_, _, none, 0, rfl, cell 32 _ rfl, cell 33 _ rfl, cell 34 _ rfl, cell 35 _ rfl, cell 36 _ rfl, cell 37 _ rfl, cell 38 _ rfl, cell 39 _ rfl, none0 _, by decide, by decide, fits _ (by simp [smpL])⟩
end Go.Proofs.Ytbchinfmdioijaa
set_option linter.unusedVariables false
set_option linter.unusedSimpArgs false
namespace Go.Proofs.Ytbchinfmdioijaa
open Go.RowKit Go.Shelf
theorem int_ext {a b : List Int} (h1 : a.length = b.length) (h2 : ∀ j, j < a.length → a.getD j 0 = b.getD j 0) : a = b := by
  apply List.ext_getElem h1
  intro i h3 h4
  have := h2 i h3
  simpa [List.getD, h3, h4] using this
set_option maxRecDepth 100000 in
theorem rInts_any (a b : Option Addr) (ca cb : Nat) (la lb : List Int) (w : World) (hla : la.length ≤ 17592186044416) (ha : RdI w a la) (hb : RdI w b lb) :
    Calls Try.prog 21 #[.slice a la.length ca, .slice b lb.length cb] w fun e w' => e = .returned (.bool (decide (la = lb))) ∧ Keep w w' := by
  by_cases hl : la.length = lb.length
  · go_enter Try.func21, Try.ntmps21
    rw [← hl]
    replace hl : Hid _ := hl
    go_wp2_with fail
    go_loopw [13] (fun iv wr => ∃ k : Nat, k ≤ la.length ∧ iv = .int .i64 k ∧ Keep w wr ∧ Hid (∀ j, j < k → la.getD j 0 = lb.getD j 0)) (fun iv _ => la.length - (intOf iv).toNat)
    case atStart => exact ⟨0, by omega, rfl, Keep.refl w, by intro j hj; omega⟩
    case round =>
      obtain ⟨k, hk, rfl, kw, hinv⟩ := hrel
      by_cases hkl : k < la.length
      · have hkc : (k : Int) < (la.length : Int) := by omega
        have hkl2 : k < lb.length := by have := hl.out; omega
        obtain ⟨b1, o1, rfl, c1⟩ := (ha.keep kw) k hkl
        obtain ⟨b2, o2, rfl, c2⟩ := (hb.keep kw) k hkl2
        obtain ⟨x, hx⟩ : ∃ x, la.getD k 0 = x := ⟨_, rfl⟩
        obtain ⟨y, hy⟩ : ∃ y, lb.getD k 0 = y := ⟨_, rfl⟩
        rw [hx] at c1
        rw [hy] at c2
        have HX : Hid (la.getD k 0 = x ∧ lb.getD k 0 = y) := ⟨hx, hy⟩
        clear hx hy
        by_cases hxy : x = y
        · subst hxy
          have HN : Hid (∀ j, j < k + 1 → la.getD j 0 = lb.getD j 0) := by
            intro j hj
            by_cases e : j = k
            · subst e; rw [HX.out.1, HX.out.2]
            · exact hinv.out j (by omega)
          go_wp2_with fail
          go_region_with fail
          all_goals
            go_simp
            go_wp2_with fail
            go_roundw
            case rel => exact ⟨k + 1, by omega, by go_num, kw.drew, HN⟩
            case measure => simp [intOf]; omega
        · have hB : (x == y) = false := by simpa using hxy
          have hB2 : (x != y) = true := by simpa using hxy
          have HF : Hid (decide (la = lb) = false) := by
            show _ = _
            rw [decide_eq_false_iff_not]
            intro e
            have := HX.out
            rw [e] at this
            exact hxy (this.1.symm.trans this.2)
          clear hxy
          go_wp2_with fail
          go_region_with fail
          all_goals
            go_simp
            go_wp2_with fail
            go_ret
            exact ⟨ret_bool HF.out.symm, kw.drew⟩
      · have hkc : ¬ (k : Int) < (la.length : Int) := by omega
        have HT : Hid (decide (la = lb) = true) := decide_eq_true (int_ext hl.out (fun j hj => hinv.out j (by omega)))
        go_wp2_with fail
        go_ret
        exact ⟨ret_bool HT.out.symm, kw⟩
  · have hB : ((la.length : Int) == (lb.length : Int)) = false := by rw [beq_eq_false_iff_ne]; omega
    have hB2 : ((la.length : Int) != (lb.length : Int)) = true := by simp; omega
    have HF : Hid (decide (la = lb) = false) := by
      show _ = _
      rw [decide_eq_false_iff_not]
      intro e; rw [e] at hl; exact hl rfl
    go_enter Try.func21, Try.ntmps21
    go_wp2_with fail
    go_ret
    exact ⟨ret_bool HF.out.symm, Keep.refl _⟩
theorem OwnI.rdI {w : World} {v : Value} {l : List Nat} (h : OwnI w v l) : ∃ a c, v = .slice a (l.map (fun x => ((x : Nat) : Int))).length c ∧ l.length ≤ c ∧ RdI w a (l.map (fun x => ((x : Nat) : Int))) := by
  by_cases h0 : 0 < l.length
  · obtain ⟨g, cap, rfl, h1, h2, h3⟩ := h.cells h0
    refine ⟨some ⟨g, 0, none⟩, cap, by simp, h1, ?_⟩
    intro j hj
    refine ⟨g, 0, rfl, ?_⟩
    simp only [List.length_map] at hj
    rw [Nat.zero_add, h3 j hj]
    simp [List.getD, hj]
  · obtain ⟨a, c, rfl, hc⟩ := h.shape
    have : l = [] := List.eq_nil_of_length_eq_zero (by omega)
    subst this
    exact ⟨a, c, rfl, hc, RdI.nil _ _⟩
end Go.Proofs.Ytbchinfmdioijaa
