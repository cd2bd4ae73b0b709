import Derived.Test.YtagfkmbljkglpaaC6
import Derived.Test.YtagfkmbljkglpaaC7
set_option linter.unusedVariables false
set_option linter.unusedSimpArgs false
namespace Go.Proofs.Ytagfkmbljkglpaa
open Go.RowKit Lb Nr
theorem results_box5 {fn : Func} {t u : Tmp} (h : fn.results = #[.cell t 31, .tmp u]) (tmps : Array Value) (w : World) (g : Nat) (v0 v1 v2 v3 v4 : Value) (hp : tmps.getD t undef = .pointer (some ⟨g, 0, none⟩)) (hh : w.heap[g]? = some (.cells #[v0, v1, v2, v3, v4] 31 (0, 0))) :
    (results fn tmps).run Try.prog w = .ok (.tuple #[.agg #[v0, v1, v2, v3, v4], tmps.getD u undef]) w := by
  have c0 := cell_of_row _ _ 0 _ 31 (0, 0) hh
  have c1 := cell_of_row _ _ 1 _ 31 (0, 0) hh
  have c2 := cell_of_row _ _ 2 _ 31 (0, 0) hh
  have c3 := cell_of_row _ _ 3 _ 31 (0, 0) hh
  have c4 := cell_of_row _ _ 4 _ 31 (0, 0) hh
  simp only [List.getElem?_toArray, List.getElem?_cons_zero, List.getElem?_cons_succ] at c0 c1 c2 c3 c4
  have hp' : (tmps[t]?).getD undef = .pointer (some ⟨g, 0, none⟩) := by simpa using hp
  simp [results, h, hp, hp', go_sem, c0, c1, c2, c3, c4]
theorem nearV_form (M : Nat) (E : Int) (hM : M ≤ 9007199254740992) (hE : -1074 ≤ E) : ∃ inf M' E', (∀ g, nearV M E g = numV g inf M' E') ∧ nb inf M' E' = rb M E ∧ M' < 9007199254740992 ∧ -1074 ≤ E' ∧ E' ≤ 971 := by
  unfold nearV
  by_cases h : 971 < rE M E
  · refine ⟨true, 0, 0, fun g => by rw [if_pos h], ?_, by omega, by omega, by omega⟩
    unfold nb rb
    rw [if_pos h]
    rfl
  · refine ⟨false, rM M, rE M E, fun g => by rw [if_neg h], ?_, ?_, ?_, by omega⟩
    · unfold nb rb
      rw [if_neg h]
      rfl
    · unfold rM; split <;> omega
    · unfold rE; split <;> omega
/-- The two boxes that the reference's Nearest begins with. -/
theorem two_boxes (w : World) : ∃ w0, (w.alloc (Obj.cells #[.int .i64 53, .int .i64 (-1074), .int .i64 971] 35)).alloc (Obj.cells #[.bool false, .bool false, .bool false, .int .u64 0, .int .i64 0] 31) = w0 ∧ Keep w w0 ∧ w0.heap[w.heap.size]? = some (Obj.cells #[.int .i64 53, .int .i64 (-1074), .int .i64 971] 35 (0, 0)) ∧ w0.heap[w.heap.size + 1]? = some (Obj.cells #[.bool false, .bool false, .bool false, .int .u64 0, .int .i64 0] 31 (0, 0)) := by
  refine ⟨_, rfl, ((Keep.refl w).alloc _).alloc _, ?_, ?_⟩
  · have hs : w.heap.size < (w.alloc (Obj.cells #[.int .i64 53, .int .i64 (-1074), .int .i64 971] 35)).heap.size := by simp
    exact (((Keep.refl (w.alloc (Obj.cells #[.int .i64 53, .int .i64 (-1074), .int .i64 971] 35))).alloc _).block _ hs).trans (heap_alloc_new w _)
  · have hs : (w.alloc (Obj.cells #[.int .i64 53, .int .i64 (-1074), .int .i64 971] 35)).heap.size = w.heap.size + 1 := by simp
    rw [← hs]
    exact heap_alloc_new _ _
theorem nl_zero_val {l : List Nat} : nl l = 0 ↔ val l = 0 := by
  constructor
  · intro h
    rw [← val_take_nl l, h]; rfl
  · intro h
    rcases Nat.eq_zero_or_pos (nl l) with g | g
    · exact g
    · have := val_ge_len l (by omega)
      have := Nat.two_pow_pos (lenB l - 1)
      omega
set_option maxRecDepth 100000 in
set_option maxHeartbeats 1000000 in
theorem rN_zero (ng : Bool) (a b : Option Addr) (ca cb : Nat) (la lb : List Nat) (w : World) (hca : la.length ≤ ca) (hcb : lb.length ≤ cb) (hla : la.length ≤ 35184372087808) (hlb : lb.length ≤ 35184372087808) (hra : Rd w a la) (hrb : Rd w b lb) (hz : val lb = 0 ∨ val la = 0) :
    Calls Try.prog 5 #[.bool ng, .slice a la.length ca, .slice b lb.length cb, wideV] w fun e w' => e = .returned (.tuple #[numV false false 0 0, .bool (decide (val lb ≠ 0))]) ∧ Keep w w' := by
  obtain ⟨w0, hw0, k0, tb, tr⟩ := two_boxes w
  have n1 := norm_any a ca la w0 hca (by omega) (hra.keep k0)
  have n2 := norm_any b cb lb w0 hcb (by omega) (hrb.keep k0)
  have a0 := cell_of_row _ _ 0 _ 31 (0, 0) tr
  have a1 := cell_of_row _ _ 1 _ 31 (0, 0) tr
  have a2 := cell_of_row _ _ 2 _ 31 (0, 0) tr
  have a3 := cell_of_row _ _ 3 _ 31 (0, 0) tr
  have a4 := cell_of_row _ _ 4 _ 31 (0, 0) tr
  simp only [List.getElem?_toArray, List.getElem?_cons_zero, List.getElem?_cons_succ] at a0 a1 a2 a3 a4
  have b0 := frozen_of_row _ _ 0 _ 31 tr
  have b1 := frozen_of_row _ _ 1 _ 31 tr
  have b2 := frozen_of_row _ _ 2 _ 31 tr
  have b3 := frozen_of_row _ _ 3 _ 31 tr
  have b4 := frozen_of_row _ _ 4 _ 31 tr
  have hgl : w.heap.size ≤ w.heap.size + 1 := Nat.le_succ _
  have hkf : ∀ x0 x1 x2 x3 x4 : Value, Keep w (((((w0.setCell ⟨w.heap.size + 1, 0, none⟩ x0).setCell ⟨w.heap.size + 1, 1, none⟩ x1).setCell ⟨w.heap.size + 1, 2, none⟩ x2).setCell ⟨w.heap.size + 1, 3, none⟩ x3).setCell ⟨w.heap.size + 1, 4, none⟩ x4) := fun x0 x1 x2 x3 x4 =>
    ((((k0.setCell (p := ⟨w.heap.size + 1, 0, none⟩) hgl x0).setCell (p := ⟨w.heap.size + 1, 1, none⟩) hgl x1).setCell (p := ⟨w.heap.size + 1, 2, none⟩) hgl x2).setCell (p := ⟨w.heap.size + 1, 3, none⟩) hgl x3).setCell (p := ⟨w.heap.size + 1, 4, none⟩) hgl x4
  replace hkf : Hid _ := hkf
  unfold wideV numV
  by_cases h0 : val lb = 0
  · have e0 := nl_zero_val.2 h0
    have HD : Hid (decide (val lb ≠ 0) = false) := by show _ = _; simp [h0]
    rw [e0] at n2
    clear hz h0 e0
    go_enter Try.func5, Try.ntmps5
    go_wp2_with fail
    refine n1.mono ?_
    rintro e wx ⟨rfl, rfl⟩
    go_wp2_with fail
    refine n2.mono ?_
    rintro e wx ⟨rfl, rfl⟩
    go_wp2_with fail
    refine bodyPost_ret (results_box5 rfl _ _ (w.heap.size + 1) _ _ _ _ _ rfl (heap5 _ (w.heap.size + 1) _ _ _ _ _ tr)) rfl ?_
    rw [HD.out]
    exact ⟨rfl, hkf.out _ _ _ _ _⟩
  · have hz' : val la = 0 := by omega
    have e1 := nl_zero_val.2 hz'
    have e2 : nl lb ≠ 0 := fun h => h0 (nl_zero_val.1 h)
    have e3 : ((nl lb : Int) == 0) = false := by rw [beq_eq_false_iff_ne]; omega
    have HD : Hid (decide (val lb ≠ 0) = true) := by show _ = _; simp [h0]
    rw [e1] at n1
    clear hz h0 e1 hz'
    go_enter Try.func5, Try.ntmps5
    go_wp2_with fail
    refine n1.mono ?_
    rintro e wx ⟨rfl, rfl⟩
    go_wp2_with fail
    refine n2.mono ?_
    rintro e wx ⟨rfl, rfl⟩
    go_wp2_with fail
    refine bodyPost_ret (results_box5 rfl _ _ (w.heap.size + 1) _ _ _ _ _ rfl (heap5 _ (w.heap.size + 1) _ _ _ _ _ tr)) rfl ?_
    rw [HD.out]
    exact ⟨rfl, hkf.out _ _ _ _ _⟩
end Go.Proofs.Ytagfkmbljkglpaa
