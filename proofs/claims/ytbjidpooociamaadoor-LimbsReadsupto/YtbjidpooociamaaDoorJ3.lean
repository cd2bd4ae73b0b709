import Derived.Test.YtbjidpooociamaaDoorJ2
import Derived.Test.YtbjidpooociamaaDoorI5
namespace Go.Proofs.YtbjidpooociamaaDoor
open Go.RowKit Lb
/-- A slice that owns its bytes (made by append). -/
def Own8 (B : Nat) (w : World) (v : Value) (l : List Nat) : Prop := w.ownsRow B 5 1 v l.length (V8 l)
theorem Own8.keep {B : Nat} {w w' : World} {v : Value} {l : List Nat} (h : Own8 B w v l) (k : Keep w w') : Own8 B w' v l := by
  refine ⟨h.1, ?_⟩
  rcases h.2 with h2 | ⟨g, cap, cur, hv, hg, hh, r⟩
  · exact .inl h2
  · exact .inr ⟨g, cap, cur, hv, hg, by rw [k.block g (Array.getElem?_eq_some_iff.1 hh).1]; exact hh, r⟩
theorem Own8.shape {B : Nat} {w : World} {v : Value} {l : List Nat} (h : Own8 B w v l) : ∃ a c, v = .slice a l.length c ∧ l.length ≤ c ∧ (∀ j, j < l.length → ∃ g, a = some ⟨g, 0, none⟩ ∧ w.cell? ⟨g, j, none⟩ = some (.int .u8 (l.getD j 0 : Nat))) := by
  rcases h.2 with ⟨h1, h2⟩ | ⟨g, cap, cur, hv, hg, hh, h1, h2, h3, h4⟩
  · exact ⟨none, 0, by rw [h1, h2], by omega, fun j hj => by omega⟩
  · refine ⟨some ⟨g, 0, none⟩, cap, hv, h1, ?_⟩
    intro j hj
    refine ⟨g, rfl, ?_⟩
    rw [cell_of_row w g j cur 5 (0, 0) hh, ← V8_get l j hj, ← h4]
    simp [hj]
/-- Blocks of limbs are left as they were. -/
def Blocks62 (w w' : World) : Prop := ∀ (g : Nat) (cs : Array Value) (f : Nat × Nat), w.heap[g]? = some (Obj.cells cs 62 f) → w'.heap[g]? = some (Obj.cells cs 62 f)
theorem Own.blocks {B : Nat} {w w' : World} {v : Value} {l : List Nat} (h : Own B w v l) (k : Blocks62 w w') : Own B w' v l := by
  refine ⟨h.1, ?_⟩
  rcases h.2 with h2 | ⟨g, cap, cur, hv, hg, hh, r⟩
  · exact .inl h2
  · exact .inr ⟨g, cap, cur, hv, hg, k g _ _ hh, r⟩
/-- back = append(back, x). -/
theorem wpList_app8 {w0 wr : World} {ops : Array Oper} {rest : List Oper} {o : Oper} {a : Act} {Q : Exit → Act → World → Prop} (hgd : o.guard = none) (s x : Operand)
    (ho : o.op = .call { callee := .builtin .append, args := #[s, x], argTypes := #[72, 72] }) (l : List Nat) (v : Value) (hs : a.eval s = v) (Y : Int) (y : Nat) (hY : Y = (y : Int))
    (hx : a.eval x = .slice (some ⟨wr.heap.size, 0, none⟩) 1 1) (hown : Own8 w0.heap.size wr v l) (hk : Keep w0 wr) (hlen : l.length < 35184372088832)
    (hK : ∀ v' w1, Own8 w0.heap.size w1 v' (l ++ [y]) → Keep w0 w1 → Blocks62 wr w1 → wpList Tryd.prog ops Q rest (a.put o.dst v') w1) :
    wpList Tryd.prog ops Q (o :: rest) a (wr.alloc (.cells #[.int .u8 Y] 5)) := by
  obtain ⟨i0, hi, hz0, hz1, hz2⟩ := info_parts i5
  subst hY
  refine wpList_append_own _ hgd s x 72 ho w0.heap.size 5 i0 (.int .u8 0) 1 1 Tryd.underlying72 hi hz0 hz1 hz2 rfl (by decide) v _ _ hs (hown.alloc _) ⟨wr.heap.size, 0, none⟩ 1 1 [.int .u8 (y : Int)] hx rfl ?_ ?_ ?_ ?_ ?_ ?_
  · intro j u hj
    match j, hj with
    | 0, hj => simp at hj; subst hj; simp [Addr.add]
  · intro u hu; simp at hu; subst hu; rfl
  · simp only [maxLen]; omega
  · omega
  · have := hk.le; simp; omega
  · intro v' w1 h1 h2 _
    refine hK v' w1 ?_ ?_ ?_
    · unfold Own8; simpa [V8] using h1
    · refine Below.grown (hk.alloc _) h2 (by have := hk.le; simp; omega) ?_
      intro k hk'
      have := hown.lt k hk'
      exact this.1
    · intro g cs f hg
      have hlt : g < wr.heap.size := (Array.getElem?_eq_some_iff.1 hg).1
      have h3 : (wr.alloc (.cells #[.int .u8 (y : Int)] 5)).heap[g]? = some (.cells cs 62 f) := by
        rw [((Keep.refl wr).alloc (.cells #[.int .u8 (y : Int)] 5)).block g hlt]; exact hg
      have hne : some g ≠ v.ownBlock := by
        intro he
        rcases hown.2 with ⟨h4, -⟩ | ⟨g', cap, cur, h4, -, hh, -⟩
        · rw [h4] at he; cases he
        · rw [h4] at he
          have he : some g = some g' := he
          simp only [Option.some.injEq] at he
          subst he
          rw [hh] at hg
          simp at hg
      rw [h2.block g (Array.getElem?_eq_some_iff.1 h3).1 hne]
      exact h3
/-- A natural's digits, the lowest first. -/
def rdig (n : Nat) : List Nat := if h : n = 0 then [] else (48 + n % 10) :: rdig (n / 10)
termination_by n
decreasing_by omega
theorem rdig_zero : rdig 0 = [] := by rw [rdig]; simp
theorem rdig_pos {n : Nat} (h : 0 < n) : rdig n = (48 + n % 10) :: rdig (n / 10) := by rw [rdig]; simp; omega
theorem rdig_len : ∀ (N V : Nat), V < 10 ^ N → (rdig V).length ≤ N
  | 0, V, h => by
    have : V = 0 := by simp at h; omega
    subst this; rw [rdig_zero]; simp
  | N + 1, V, h => by
    by_cases h0 : V = 0
    · subst h0; rw [rdig_zero]; simp
    · rw [rdig_pos (by omega), List.length_cons]
      have := rdig_len N (V / 10) (by rw [Nat.pow_succ] at h; omega)
      omega
theorem cut0_snoc (A : List Nat) (d : Nat) (h : cut0 A ≠ []) : cut0 (A ++ [d]) = cut0 A ++ [d] := by
  unfold cut0 at *
  induction A with
  | nil => simp at h
  | cons x xs ih =>
    rw [List.cons_append, List.dropWhile_cons, List.dropWhile_cons] at *
    split
    · rename_i hx
      rw [if_pos hx] at h
      exact ih h
    · rfl
theorem cut0_all (A : List Nat) (d : Nat) (h : cut0 A = []) : cut0 (A ++ [d]) = cut0 [d] := by
  unfold cut0 at *
  induction A with
  | nil => rfl
  | cons x xs ih =>
    rw [List.dropWhile_cons] at h
    split at h
    · rename_i hx
      rw [List.cons_append, List.dropWhile_cons, if_pos hx]
      exact ih h
    · simp at h
theorem rdig_dw : ∀ (k n : Nat), 0 < n → n < 10 ^ k → cut0 (dw k n) = (rdig n).reverse
  | 0, n, h, h1 => by simp at h1; omega
  | k + 1, n, h, h1 => by
    rw [dw, rdig_pos h, List.reverse_cons]
    by_cases h0 : n / 10 = 0
    · rw [h0, rdig_zero, cut0_all _ _ (cut0_zero k)]
      have : 48 + n % 10 ≠ 48 := by omega
      simp [cut0, List.dropWhile_cons]
      omega
    · have hp : 0 < n / 10 := by omega
      have hlt : n / 10 < 10 ^ k := by rw [Nat.pow_succ] at h1; omega
      rw [cut0_snoc _ _ (cut0_ne _ _ hp hlt), rdig_dw k (n / 10) hp hlt]
theorem rdig_dec {n : Nat} (h : 0 < n) : (rdig n).reverse = dec n := by
  unfold dec
  rw [if_neg (by omega), rdig_dw n n h (lt_pow n)]
theorem rdig_step (q n e : Nat) (h : 0 < q * 10 ^ (e + 1) + n) : rdig (q * 10 ^ (e + 1) + n) = (48 + n % 10) :: rdig (q * 10 ^ e + n / 10) := by
  rw [rdig_pos h]
  have e1 : q * 10 ^ (e + 1) = 10 * (q * 10 ^ e) := by rw [Nat.pow_succ, ← Nat.mul_assoc, Nat.mul_comm]
  rw [e1]
  congr 2 <;> omega
end Go.Proofs.YtbjidpooociamaaDoor
