import Derived.Test.YtaogjiffnebnkaaP14
import Derived.Test.YtaogjiffnebnkaaRI
set_option linter.unusedVariables false
set_option linter.unusedSimpArgs false
namespace Go.Proofs.Ytaogjiffnebnkaa
open Go.RowKit Go.Shelf
def updV (x : Nat → Value) (i : Nat) (v : Value) : Nat → Value := fun j => if j = i then v else x j
/-- What each operation of the law's first statement leaves. -/
def Fc (w1 : World) (V : Nat → Value) (F : Int) (L C O : List Ct) (x : Nat → Value) (w : World) : Nat → Value → Prop
  | 4, v => ∃ K, OC L w1 v w K
  | 7, v => ∃ K, OC C w1 v w K
  | 10, v => ∃ K, OC O w1 v w K
  | 11, v => v = .agg #[.int .i64 F, x 4, x 7, x 10]
  | j, v => v = V j
theorem Fc.keep {w1 : World} {V : Nat → Value} {F : Int} {L C O : List Ct} {x : Nat → Value} {w w' : World} {j : Nat} {v : Value} (h : Fc w1 V F L C O x w j v) (k : ∀ {M : List Ct} {u : Value} {K : List (Ct × Option Addr × Nat)}, OC M w1 u w K → OC M w1 u w' K) {y : Nat → Value} (hy : j = 11 → y 4 = x 4 ∧ y 7 = x 7 ∧ y 10 = x 10) : Fc w1 V F L C O y w' j v := by
  unfold Fc at h ⊢
  split at h
  · obtain ⟨K, h⟩ := h; exact ⟨K, k h⟩
  · obtain ⟨K, h⟩ := h; exact ⟨K, k h⟩
  · obtain ⟨K, h⟩ := h; exact ⟨K, k h⟩
  · obtain ⟨e1, e2, e3⟩ := hy rfl
    rw [e1, e2, e3]; exact h
  · exact h
def zbx : Array Value := #[.int .i64 0, .slice none 0 0, .slice none 0 0, .slice none 0 0]
structure RG (w1 : World) (V : Nat → Value) (F : Int) (L C O : List Ct) (l : Array Bool) (x : Nat → Value) (w : World) : Prop where
  sz : l.size = 14
  kp : Keep w1 w
  f : ∀ j, j < 12 → l.getD j false = true → Fc w1 V F L C O x w j (x j)
  c11 : l.getD 11 false = true → l.getD 4 false = true ∧ l.getD 7 false = true ∧ l.getD 10 false = true
  bx : l.getD 12 false = true → ∃ p, x 12 = .pointer (some ⟨p, 0, none⟩) ∧ w1.heap.size ≤ p ∧ (l.getD 13 false = false → w.heap[p]? = some (.cells zbx 33 (0, 0))) ∧ (l.getD 13 false = true → w.heap[p]? = some (.cells #[.int .i64 F, x 4, x 7, x 10] 33 (0, 0)))
theorem OC.same {L : List Ct} {w : World} {v : Value} {wr w' : World} {K : List (Ct × Option Addr × Nat)} (h : OC L w v wr K) (k : Keep w w') (hb : ∀ (b : Nat) (cur : Array Value), (wr.heap[b]? = some (Obj.cells cur 57 (0, 0)) ∨ wr.heap[b]? = some (Obj.cells cur 3 (0, 0))) → w'.heap[b]? = wr.heap[b]?) : OC L w v w' K :=
  ⟨h.eq, h.own.same (fun b e => by obtain ⟨-, cur, hh⟩ := h.own.block e; exact hb b cur (.inl hh)), fun r hr => ⟨(h.cats r hr).1.same (fun b e => by obtain ⟨-, cur, hh⟩ := (h.cats r hr).1.block e; exact hb b cur (.inr hh)), (h.cats r hr).2⟩, k⟩
theorem getD_sets (l : Array Bool) (i j : Nat) (h : i ≠ j) : (l.setIfInBounds i true).getD j false = l.getD j false := getD_set_ne false h
/-- An operation that only reads, or calls: below the twelfth. -/
theorem RG.next {w1 : World} {V : Nat → Value} {F : Int} {L C O : List Ct} {l : Array Bool} {x : Nat → Value} {w w' : World} (h : RG w1 V F L C O l x w) (i : Nat) (hi : i < 12) (hl : l.getD i false = false) (h13 : l.getD 13 false = false) (k : Keep w w') (v : Value)
    (hv : Fc w1 V F L C O x w' i v) (hc : i = 11 → l.getD 4 false = true ∧ l.getD 7 false = true ∧ l.getD 10 false = true) : RG w1 V F L C O (l.setIfInBounds i true) (updV x i v) w' := by
  have hx : ∀ j, j ≠ i → updV x i v j = x j := fun j e => by simp [updV, e]
  have ho : ∀ {j : Nat}, j ≠ i → (l.setIfInBounds i true).getD j false = true → l.getD j false = true := fun e h => by
    rcases listed_set h with e' | h
    · exact absurd e' e
    · exact h
  refine ⟨by simpa using h.sz, h.kp.trans k, fun j hj hj2 => ?_, fun h11 => ?_, fun h12 => ?_⟩
  · by_cases e : j = i
    · subst e
      have : updV x j v j = v := by simp [updV]
      rw [this]
      refine hv.keep (fun h => h) (fun e => ?_)
      subst e
      exact ⟨by simp [updV], by simp [updV], by simp [updV]⟩
    · rw [hx j e]
      refine (h.f j hj (ho e hj2)).keep (fun h => h.keep k) (fun e11 => ?_)
      subst e11
      obtain ⟨a, b, c⟩ := h.c11 (ho e hj2)
      refine ⟨hx 4 (fun e => ?_), hx 7 (fun e => ?_), hx 10 (fun e => ?_)⟩
      · rw [e, hl] at a; cases a
      · rw [e, hl] at b; cases b
      · rw [e, hl] at c; cases c
  · have key : l.getD 4 false = true ∧ l.getD 7 false = true ∧ l.getD 10 false = true := by
      rcases listed_set h11 with e | h11
      · exact hc e.symm
      · exact h.c11 h11
    have up : ∀ j, l.getD j false = true → (l.setIfInBounds i true).getD j false = true := fun j hj => by
      by_cases e : i = j
      · subst e; rw [hl] at hj; cases hj
      · rw [getD_sets _ _ _ e]; exact hj
    exact ⟨up 4 key.1, up 7 key.2.1, up 10 key.2.2⟩
  · obtain ⟨p, e1, e2, e3, e4⟩ := h.bx (ho (by omega) h12)
    have hz := e3 h13
    refine ⟨p, by rw [hx 12 (by omega)]; exact e1, e2, fun _ => (k.block p (Array.getElem?_eq_some_iff.1 hz).1).trans hz, fun h13' => ?_⟩
    have := ho (j := 13) (by omega) h13'
    rw [h13] at this
    cases this
theorem RG.box {w1 : World} {V : Nat → Value} {F : Int} {L C O : List Ct} {l : Array Bool} {x : Nat → Value} {w : World} (h : RG w1 V F L C O l x w) (hl : l.getD 12 false = false) (h13 : l.getD 13 false = false) : RG w1 V F L C O (l.setIfInBounds 12 true) (updV x 12 (.pointer (some ⟨w.heap.size, 0, none⟩))) (w.alloc (Obj.cells zbx 33)) := by
  have hx : ∀ j, j ≠ 12 → updV x 12 (.pointer (some ⟨w.heap.size, 0, none⟩)) j = x j := fun j e => by simp [updV, e]
  have k : Keep w (w.alloc (Obj.cells zbx 33)) := (Keep.refl w).alloc _
  refine ⟨by simpa using h.sz, h.kp.trans k, fun j hj hj2 => ?_, fun h11 => ?_, fun h12 => ?_⟩
  · rw [getD_sets _ _ _ (by omega)] at hj2
    rw [hx j (by omega)]
    exact (h.f j hj hj2).keep (fun h => h.keep k) (fun e => ⟨hx 4 (by omega), hx 7 (by omega), hx 10 (by omega)⟩)
  · rw [getD_sets _ _ _ (by omega)] at h11
    rw [getD_sets _ _ _ (by omega), getD_sets _ _ _ (by omega), getD_sets _ _ _ (by omega)]
    exact h.c11 h11
  · refine ⟨w.heap.size, by simp [updV], h.kp.le, fun _ => heap_alloc_new w _, fun h13' => ?_⟩
    rw [getD_sets _ _ _ (by omega), h13] at h13'
    cases h13'
end Go.Proofs.Ytaogjiffnebnkaa
