import Derived.Test.YtgmnadlmejkkpaaDoorF2
import Derived.Lib.SliceRun
set_option linter.unusedVariables false
set_option linter.unusedSimpArgs false
namespace Go.Proofs.YtgmnadlmejkkpaaDoor
open Go.RowKit
theorem with1 (x y : Nat) (w : World) (hx : x < 18446744073709551616) (hy : y < 18446744073709551616) :
    Calls Tryd.prog 62 #[.int .u64 (x : Nat), .int .u64 (y : Nat)] w fun e w' => e = .returned (.int .u64 ((x ||| y : Nat) : Int)) ∧ w' = w := by
  have h := u64_or_nat x y hx hy
  go_enter Tryd.func62, Tryd.ntmps62
  go_wp2
  go_ret
  exact ⟨rfl, rfl⟩
theorem less1 (x y : Nat) (w : World) (hx : x < 18446744073709551616) (hy : y < 18446744073709551616) :
    Calls Tryd.prog 63 #[.int .u64 (x : Nat), .int .u64 (y : Nat)] w fun e w' => e = .returned (.int .u64 ((x &&& (18446744073709551615 - y) : Nat) : Int)) ∧ w' = w := by
  have h := u64_andNot_nat x y hx hy
  go_enter Tryd.func63, Tryd.ntmps63
  go_wp2
  go_ret
  exact ⟨rfl, rfl⟩
/-- append(S{}, l...). -/
theorem wpList_copye {w : World} {ops : Array Oper} {rest : List Oper} {o : Oper} {a : Act} {Q : Exit → Act → World → Prop} (hgd : o.guard = none) (s x : Operand)
    (ho : o.op = .call { callee := .builtin .append, args := #[s, x], argTypes := #[25, 25] }) (l : List Nat) (ad : Addr) (c : Nat) (hs : a.eval s = .slice (some ⟨w.heap.size, 0, none⟩) 0 0)
    (hx : a.eval x = .slice (some ad) l.length c) (hr : Rd w (some ad) l) (hlen : l.length ≤ 17592186044416)
    (hK : ∀ v w1, Own w.heap.size w1 v l → Keep w w1 → wpList Tryd.prog ops Q rest (a.put o.dst v) w1) :
    wpList Tryd.prog ops Q (o :: rest) a (w.alloc (Obj.cells #[] 59)) := by
  obtain ⟨i0, hi, hz0, hz1, hz2⟩ := info_parts i59
  have hk : Keep w (w.alloc (Obj.cells #[] 59)) := (Keep.refl w).alloc _
  have hr' := hr.keep hk
  have hown : Own w.heap.size (w.alloc (Obj.cells #[] 59)) (.slice (some ⟨w.heap.size, 0, none⟩) 0 0) [] := by
    refine ⟨rfl, .inr ⟨w.heap.size, 0, #[], rfl, Nat.le_refl _, heap_alloc_new w _, by simp, by decide, by simp, rfl⟩⟩
  refine wpList_append_own _ hgd s x 25 ho w.heap.size 59 i0 (.int .u64 0) 1 8 Tryd.underlying25 hi hz0 hz1 hz2 rfl (by decide) _ _ _ hs hown ad l.length c (U l) hx (by simp [U]) ?_ (U_one l) ?_ ?_ ?_ ?_
  · intro j u hj
    have hjl : j < l.length := by have := (List.getElem?_eq_some_iff.1 hj).1; simpa [U_length] using this
    rw [U_get l j hjl] at hj
    obtain ⟨b', o', e, hc⟩ := hr' j hjl
    simp only [Option.some.injEq] at e
    subst e
    rw [Addr.add_lit, hc, hj]
  · simp only [maxLen, List.length_nil]; omega
  · simp only [List.length_nil]; omega
  · simp
  · intro v' w1 h1 h2 _
    refine hK v' w1 ?_ ?_
    · unfold Own; simpa [U] using h1
    · refine Below.grown hk h2 (by simp) ?_
      intro k hk'
      have : some k = some w.heap.size := hk'.symm ▸ rfl
      simp at this
      omega
set_option maxRecDepth 100000 in
theorem Clone_any (ad : Addr) (c : Nat) (l : List Nat) (w : World) (hl : l.length ≤ 17592186044416) (hr : Rd w (some ad) l) :
    Calls Tryd.prog 59 #[.slice (some ad) l.length c] w fun e w' => ∃ v, e = .returned v ∧ Own w.heap.size w' v l ∧ Keep w w' := by
  have hnil := Lib.run_eql_slice_nil (P := Tryd.prog) w 25 59 (some ad) l.length c 0 0 Tryd.underlying25
  go_enter Tryd.func59, Tryd.ntmps59
  go_wp2_with (at_builtin; refine wpList_copye rfl _ _ rfl l ad c ?_ ?_ hr hl ?_; rotate_left 2; intro v w1 h1 k1)
  go_ret
  exact ⟨_, rfl, h1, k1⟩
  all_goals rfl
/-- Words of one's own, one of them changed. -/
theorem Rd.of_rowC {w : World} {g : Nat} {cur : Array Value} {l : List Nat} (h : RowC w g cur) (hc : ∀ j, j < l.length → cur[j]? = some (.int .u64 (l.getD j 0 : Nat))) : Rd w (some ⟨g, 0, none⟩) l := by
  intro j hj
  refine ⟨g, 0, rfl, ?_⟩
  rw [Nat.zero_add, h.cell j]
  exact hc j hj
theorem cells_set {cur : Array Value} {l : List Nat} {q : Nat} (hc : ∀ j, j < l.length → cur[j]? = some (.int .u64 (l.getD j 0 : Nat))) (hq : q < l.length) (y : Nat) :
    ∀ j, j < (l.set q y).length → (cur.setIfInBounds q (.int .u64 (y : Nat)))[j]? = some (.int .u64 ((l.set q y).getD j 0 : Nat)) := by
  intro j hj
  rw [List.length_set] at hj
  have hs : q < cur.size := (Array.getElem?_eq_some_iff.1 (hc q hq)).1
  rw [Array.getElem?_setIfInBounds]
  by_cases e : q = j
  · subst e
    rw [if_pos rfl, if_pos hs]
    simp [List.getD, hq]
  · rw [if_neg e, hc j hj]
    simp only [List.getD, List.getElem?_set]
    rw [if_neg e]
theorem Own.cells {B : Nat} {w : World} {v : Value} {l : List Nat} (h : Own B w v l) (h0 : l.length ≠ 0) : ∃ g cur cap, v = .slice (some ⟨g, 0, none⟩) l.length cap ∧ B ≤ g ∧ RowC w g cur ∧ l.length ≤ cap ∧ ∀ j, j < l.length → cur[j]? = some (.int .u64 (l.getD j 0 : Nat)) := by
  rcases h.2 with ⟨h1, h2⟩ | ⟨g, cap, cur, hv, hg, hh, h1, h2, h3, h4⟩
  · exact absurd h2 h0
  · refine ⟨g, cur, cap, hv, hg, hh, h1, ?_⟩
    intro j hj
    have q := congrArg (fun t => t[j]?) h4
    simp only [Nat.mul_one, List.getElem?_take, hj, if_true] at q
    rw [U_get l j hj] at q
    simpa using q
end Go.Proofs.YtgmnadlmejkkpaaDoor
