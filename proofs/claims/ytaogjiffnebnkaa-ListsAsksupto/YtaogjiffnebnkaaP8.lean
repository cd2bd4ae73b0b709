import Derived.Test.YtaogjiffnebnkaaP7
import Derived.Test.YtaogjiffnebnkaaFl
set_option linter.unusedVariables false
set_option linter.unusedSimpArgs false
namespace Go.Proofs.Ytaogjiffnebnkaa
open Go.RowKit Go.Shelf
/-- Nodes as cells. -/
def UG : List (Nat × Nat × Nat) → List Value
  | [] => []
  | r :: L => .float .f64 r.1 :: .int .i64 (r.2.1 : Nat) :: .int .i64 (r.2.2 : Nat) :: UG L
theorem UG_append : ∀ L M, UG (L ++ M) = UG L ++ UG M
  | [], _ => rfl
  | r :: L, M => by simp [UG, UG_append L M]
theorem UG_length : ∀ L, (UG L).length = L.length * 3
  | [] => rfl
  | r :: L => by simp [UG, UG_length L]; omega
theorem UG_one : ∀ L, ∀ u ∈ UG L, u.oneCell' = true
  | [], u, h => by simp [UG] at h
  | r :: L, u, h => by
    simp only [UG, List.mem_cons] at h
    rcases h with rfl | rfl | rfl | h
    all_goals first | rfl | exact UG_one L u h
abbrev gt0 : Nat × Nat × Nat := (0, 0, 0)
theorem UG_get : ∀ (K : List (Nat × Nat × Nat)) (j i : Nat), j < K.length → i < 3 → (UG K)[j * 3 + i]? = (UG [K.getD j gt0])[i]?
  | [], j, i, h, _ => by simp at h
  | r :: K, 0, i, _, hi => by
    simp only [Nat.zero_mul, Nat.zero_add, List.getD_cons_zero]
    match i, hi with
    | 0, _ => rfl
    | 1, _ => rfl
    | 2, _ => rfl
  | r :: K, j + 1, i, h, hi => by
    have := UG_get K j i (by simpa using h) hi
    rw [show (j + 1) * 3 + i = (j * 3 + i) + 1 + 1 + 1 by omega]
    simp only [UG, List.getElem?_cons_succ, List.getD_cons_succ]
    exact this
def OwnG (B : Nat) (w : World) (v : Value) (K : List (Nat × Nat × Nat)) : Prop := w.ownsRow B 44 3 v K.length (UG K)
theorem OwnG.nil (B : Nat) (w : World) : OwnG B w (.slice none 0 0) [] := ⟨rfl, .inl ⟨rfl, rfl⟩⟩
theorem OwnG.same {B : Nat} {w w' : World} {v : Value} {K : List (Nat × Nat × Nat)} (h : OwnG B w v K) (k : ∀ b, v.ownBlock = some b → w'.heap[b]? = w.heap[b]?) : OwnG B w' v K := by
  refine ⟨h.1, ?_⟩
  rcases h.2 with h2 | ⟨g, cap, cur, hv, hg, hh, r⟩
  · exact .inl h2
  · exact .inr ⟨g, cap, cur, hv, hg, by rw [k g (by rw [hv]; rfl)]; exact hh, r⟩
theorem OwnG.block {B : Nat} {w : World} {v : Value} {K : List (Nat × Nat × Nat)} (h : OwnG B w v K) {b : Nat} (hb : v.ownBlock = some b) : B ≤ b ∧ ∃ cur, w.heap[b]? = some (.cells cur 44 (0, 0)) := by
  rcases h.2 with ⟨h1, _⟩ | ⟨g, cap, cur, hv, hg, hh, r⟩
  · rw [h1] at hb; cases hb
  · rw [hv] at hb
    have hb : some g = some b := hb
    simp only [Option.some.injEq] at hb
    subst hb
    exact ⟨hg, cur, hh⟩
theorem OwnG.keep {B : Nat} {w w' : World} {v : Value} {K : List (Nat × Nat × Nat)} (h : OwnG B w v K) (k : Keep w w') : OwnG B w' v K :=
  h.same (fun b hb => by obtain ⟨_, cur, hh⟩ := h.block hb; exact k.block b (Array.getElem?_eq_some_iff.1 hh).1)
theorem OwnG.shape {B : Nat} {w : World} {v : Value} {K : List (Nat × Nat × Nat)} (h : OwnG B w v K) : ∃ a c, v = .slice a K.length c ∧ K.length ≤ c ∧ ∀ j, j < K.length → ∃ b, a = some ⟨b, 0, none⟩ ∧ ∀ i u, i < 3 → (UG [K.getD j gt0])[i]? = some u → w.cell? ⟨b, j * 3 + i, none⟩ = some u := by
  rcases h.2 with ⟨h1, h2⟩ | ⟨g, cap, cur, hv, hg, hh, h1, h2, h3, h4⟩
  · exact ⟨none, 0, by rw [h1, h2], by omega, fun j hj => by omega⟩
  · refine ⟨some ⟨g, 0, none⟩, cap, hv, h1, ?_⟩
    intro j hj
    refine ⟨g, rfl, ?_⟩
    intro i u hi hu
    have e1 : cur.toList[j * 3 + i]? = (UG K)[j * 3 + i]? := by rw [← h4, List.getElem?_take, if_pos (by omega)]
    rw [cell_of_row w g _ cur 44 (0, 0) hh, ← hu, ← UG_get K j i hj hi, ← e1]; simp
theorem i44 : (Try.prog.info? 44).map (fun i => (i.zero, i.size, i.bytes)) = some (some (.agg #[.float .f64 0, .int .i64 0, .int .i64 0]), 3, 24) := by kernel_rfl
theorem appG_sep (B : Nat) (w : World) (ty : Nat) (v : Value) (l : List (Nat × Nat × Nat)) (y : Nat × Nat × Nat) (hown : OwnG B w v l) (hB : B ≤ w.heap.size) (ad : Addr) (c : Nat) (hnews : ∀ j u, (UG [y])[j]? = some u → w.cell? (ad.add j) = some u) (hlen : l.length + 1 ≤ 1099511627776) :
    ∃ v' w', (Builtin.append_ #[39, 39] ty #[v, .slice (some ad) 1 c]).run Try.prog w = .ok v' w' ∧ OwnG B w' v' (l ++ [y]) ∧ w.grownBy w' v.ownBlock ∧ (v'.ownBlock = v.ownBlock ∨ v'.ownBlock = some w.heap.size) := by
  obtain ⟨i0, hi, hz0, hz1, hz2⟩ := info_parts i44
  have h1 : ∀ u ∈ UG [y], u.oneCell' = true := UG_one _
  have hl : (UG [y]).length = 1 * 3 := by rw [UG_length]; rfl
  obtain ⟨v', w', hr, h2, h3, -⟩ := run_append_own (P := Try.prog) w B 39 ty 44 i0 _ 3 24 Try.underlying39 hi hz0 hz1 hz2 rfl (by decide) v _ _ hown ad 1 c (UG [y]) hl hnews h1 (by simp only [maxLen]; omega) (by omega) hB
  refine ⟨v', w', hr, ?_, h3, ?_⟩
  · unfold OwnG; rw [List.length_append, UG_append]; exact h2
  rcases hown.2 with ⟨rfl, hn⟩ | ⟨g, cap, cur, rfl, hbg, hg, hnc, hcm, hcs, htake⟩
  · have e := run_append_nil (P := Try.prog) w 39 ty 44 i0 _ Try.underlying39 hi hz0 ad 1 c (UG [y]) (by rw [hz1]; exact hl) hnews (by omega) (by omega) (by rw [hz2]; omega)
    rw [hr] at e
    simp only [Result.ok.injEq] at e
    rw [e.1]
    exact .inr rfl
  · by_cases hroom : l.length + 1 ≤ cap
    · have e := run_append_room (P := Try.prog) w 39 ty 44 i0 Try.underlying39 hi g l.length cap cur hg ad 1 c (UG [y]) (by rw [hz1]; exact hl) hnews h1 hroom (by rw [hz1, UG_length]; simp; omega)
      rw [hr] at e
      simp only [Result.ok.injEq] at e
      rw [e.1]
      exact .inl rfl
    · have holds : ∀ j u, (UG l)[j]? = some u → w.cell? ((⟨g, 0, none⟩ : Addr).add j) = some u := World.ownsRow.cells (v := .slice (some ⟨g, 0, none⟩) l.length cap) hown (g := g) rfl
      have e := run_append_grow (P := Try.prog) w 39 ty 44 i0 _ Try.underlying39 hi hz0 ⟨g, 0, none⟩ l.length cap (UG l) (by rw [hz1, UG_length]) holds ad 1 c (UG [y]) (by rw [hz1]; exact hl) hnews (by omega) (by omega) (growslice_fits (by omega) (by rw [hz2]; omega))
      rw [hr] at e
      simp only [Result.ok.injEq] at e
      rw [e.1]
      exact .inr rfl
/-- append(l, node). -/
theorem wpList_appG (B : Nat) (w : World) {ops : Array Oper} {rest : List Oper} {o : Oper} {a : Act} {Q : Exit → Act → World → Prop} (hgd : o.guard = none) (s x : Operand)
    (hop : o.op = .call { callee := .builtin .append, args := #[s, x], argTypes := #[39, 39] }) (l : List (Nat × Nat × Nat)) (y : Nat × Nat × Nat) (v : Value) (hs : a.eval s = v) (hown : OwnG B w v l) (hB : B ≤ w.heap.size) (ad : Addr) (c : Nat) (hx : a.eval x = .slice (some ad) 1 c)
    (hnews : ∀ j u, (UG [y])[j]? = some u → w.cell? (ad.add j) = some u) (hlen : l.length + 1 ≤ 1099511627776)
    (hK : ∀ v' w', OwnG B w' v' (l ++ [y]) → w.grownBy w' v.ownBlock → (v'.ownBlock = v.ownBlock ∨ v'.ownBlock = some w.heap.size) → wpList Try.prog ops Q rest (a.put o.dst v') w') :
    wpList Try.prog ops Q (o :: rest) a w := by
  refine wpList_plain hgd fun K hK' => ?_
  obtain ⟨v', w', hrun, r1, r2, r3⟩ := appG_sep B w o.type v l y hown hB ad c hnews hlen
  unfold Oper.wp
  simp [execOp, hop, resolve, invoke, builtin, hs, hx, hrun, Result.andThen]
  exact hK' _ _ (hK v' w' r1 r2 r3)

theorem UG_set : ∀ (K : List (Nat × Nat × Nat)) (k : Nat) (c : Nat), k < K.length → UG (K.set k ((K.getD k gt0).1, (K.getD k gt0).2.1, c)) = (UG K).set (k * 3 + 2) (.int .i64 (c : Nat))
  | [], k, c, h => by simp at h
  | r :: K, 0, c, _ => by simp [UG]
  | r :: K, k + 1, c, h => by
    have ih := UG_set K k c (by simpa using h)
    rw [show (k + 1) * 3 + 2 = (k * 3 + 2) + 1 + 1 + 1 by omega]
    simp only [List.set_cons_succ, UG, List.getD_cons_succ]
    rw [ih]
theorem OwnG.set {B : Nat} {w : World} {g m c : Nat} {K : List (Nat × Nat × Nat)} (h : OwnG B w (.slice (some ⟨g, 0, none⟩) m c) K) {k : Nat} (hk : k < K.length) (x : Nat) :
    OwnG B (w.setCell ⟨g, k * 3 + 2, none⟩ (.int .i64 (x : Nat))) (.slice (some ⟨g, 0, none⟩) m c) (K.set k ((K.getD k gt0).1, (K.getD k gt0).2.1, x)) ∧ w.frozen? ⟨g, k * 3 + 2, none⟩ = false ∧ w.cell? ⟨g, k * 3 + 2, none⟩ = some (.int .i64 ((K.getD k gt0).2.2 : Nat)) := by
  obtain ⟨a', c', e, hc, hr⟩ := h.shape
  simp only [Value.slice.injEq] at e
  obtain ⟨rfl, -, rfl⟩ := e
  obtain ⟨b, e, hu⟩ := hr k hk
  simp only [Option.some.injEq, Addr.mk.injEq, and_true] at e
  obtain rfl := e
  obtain ⟨h1, h2⟩ := h
  rcases h2 with ⟨h2, -⟩ | ⟨g', cap, cur, hv, hg, hh, r1, r2, r3, r4⟩
  · cases h2
  · simp only [Value.slice.injEq, Option.some.injEq, Addr.mk.injEq, and_true] at hv
    obtain ⟨rfl, rfl, rfl⟩ := hv
    have a1 := heap_setCell_same w g (k * 3 + 2) _ 44 (.int .i64 (x : Nat)) hh
    refine ⟨⟨?_, .inr ⟨g, c, _, by rw [List.length_set], hg, a1, by rw [List.length_set]; exact r1, r2, by simp [r3], ?_⟩⟩, frozen_of_row w _ _ _ 44 hh, hu 2 _ (by omega) rfl⟩
    · rw [UG_set K k x hk]; simp only [List.length_set]; exact h1
    · rw [UG_set K k x hk, List.length_set, ← r4]
      simp only [Array.set!_eq_setIfInBounds, Array.toList_setIfInBounds]
      rw [List.take_set]
/-- Numbers are one, whichever stands first. -/
def eqF (x y : Nat) : Bool := FloatKind.f64.format.order x y == some .eq
theorem eqF_symm (x y : Nat) : eqF x y = eqF y x := by
  show (Ieee.double.order x y == some .eq) = (Ieee.double.order y x == some .eq)
  by_cases h : isNaN x ∨ isNaN y
  · rw [order_nan x y h, order_nan y x h.symm]
  · have h1 : ¬ isNaN x := fun e => h (.inl e)
    have h2 : ¬ isNaN y := fun e => h (.inr e)
    rw [order_ky x y h1 h2, order_ky y x h2 h1]
    rw [Bool.eq_iff_iff]
    simp only [beq_iff_eq, Option.some.injEq]
    constructor
    · intro e; rw [Std.compare_eq_iff_eq.1 e]; exact Std.compare_self
    · intro e; rw [Std.compare_eq_iff_eq.1 e]; exact Std.compare_self
/-- The groups of the first k cuts. -/
def grp (L : List Ct) : Nat → List (Nat × Nat × Nat)
  | 0 => []
  | k + 1 => if 0 < k ∧ eqF (L.getD k cd0).th (L.getD (k - 1) cd0).th = true then (grp L k).set ((grp L k).length - 1) (((grp L k).getD ((grp L k).length - 1) gt0).1, ((grp L k).getD ((grp L k).length - 1) gt0).2.1, k + 1) else grp L k ++ [((L.getD k cd0).th, k, k + 1)]
theorem grp_last (L : List Ct) : ∀ k, 0 < k → 0 < (grp L k).length ∧ (grp L k).length ≤ k ∧ ((grp L k).getD ((grp L k).length - 1) gt0).2.2 = k
  | 0, h => by omega
  | k + 1, _ => by
    rw [grp]
    split
    · rename_i h
      have ih := grp_last L k h.1
      generalize grp L k = G at *
      rw [List.length_set]
      refine ⟨ih.1, by omega, ?_⟩
      have hl : G.length - 1 < G.length := by omega
      simp [List.getD, hl]
    · rw [List.length_append]
      refine ⟨by simp, ?_, ?_⟩
      · rcases Nat.eq_zero_or_pos k with e | e
        · subst e; simp [grp]
        · have := (grp_last L k e).2.1; simp; omega
      · simp [List.getD]
end Go.Proofs.Ytaogjiffnebnkaa
