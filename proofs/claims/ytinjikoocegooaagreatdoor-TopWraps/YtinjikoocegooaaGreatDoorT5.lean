import Derived.Test.YtinjikoocegooaaGreatDoorMS25
import Derived.Test.YtinjikoocegooaaGreatDoorZX7
import Derived.Deep.RegionLaw
import Derived.Test.YtinjikoocegooaaGreatDoorT3
import Derived.BigQuiet
import Derived.BigRegion
set_option linter.unusedVariables false
set_option linter.unusedSimpArgs false
namespace Go.Proofs.YtinjikoocegooaaGreatDoor
open Go.RowKit Go.Shelf
theorem rn_one (n : Nat) : Li.RN n (1 * 1) = n := by simp [Li.RN]
theorem rd_one (n : Nat) : Li.RD n (1 * 1) = 1 := by simp [Li.RD]
/-- The sum of two whole numbers as quotients. -/
theorem plus_whole (a b : Int) : Li.PN (decide (a < 0)) (decide (b < 0)) (a.natAbs * 1) (b.natAbs * 1) = (a + b).natAbs ∧ Li.RS (Li.PG (decide (a < 0)) (decide (b < 0)) (a.natAbs * 1) (b.natAbs * 1)) (a + b).natAbs (1 * 1) = decide (a + b < 0) := by
  unfold Li.PN Li.PG Li.RS
  rw [Nat.mul_one, Nat.mul_one]
  by_cases h1 : a < 0
  · by_cases h2 : b < 0
    · have e1 := decide_eq_true h1
      have e2 := decide_eq_true h2
      have e3 := decide_eq_true (show a + b < 0 by omega)
      rw [e1, e2, e3, if_pos rfl, if_pos rfl, if_neg (by omega)]
      exact ⟨by omega, rfl⟩
    · have e1 := decide_eq_true h1
      have e2 := decide_eq_false h2
      rw [e1, e2, if_neg (show ¬ true = false by decide), if_neg (show ¬ true = false by decide)]
      by_cases h3 : b.natAbs ≤ a.natAbs
      · rw [if_pos h3, if_pos h3]
        refine ⟨by omega, ?_⟩
        by_cases h4 : a + b < 0
        · rw [decide_eq_true h4, if_neg (by omega)]
        · rw [decide_eq_false h4, if_pos (by omega)]
      · rw [if_neg h3, if_neg h3]
        refine ⟨by omega, ?_⟩
        rw [decide_eq_false (show ¬ a + b < 0 by omega)]
        split <;> rfl
  · by_cases h2 : b < 0
    · have e1 := decide_eq_false h1
      have e2 := decide_eq_true h2
      rw [e1, e2, if_neg (show ¬ false = true by decide), if_neg (show ¬ false = true by decide)]
      by_cases h3 : b.natAbs ≤ a.natAbs
      · rw [if_pos h3, if_pos h3]
        refine ⟨by omega, ?_⟩
        rw [decide_eq_false (show ¬ a + b < 0 by omega)]
        split <;> rfl
      · rw [if_neg h3, if_neg h3]
        refine ⟨by omega, ?_⟩
        rw [decide_eq_true (show a + b < 0 by omega), if_neg (by omega)]
    · have e1 := decide_eq_false h1
      have e2 := decide_eq_false h2
      rw [e1, e2, if_pos rfl, if_pos rfl, decide_eq_false (show ¬ a + b < 0 by omega)]
      refine ⟨by omega, ?_⟩
      split <;> rfl
theorem ord_self (x : Bool) (n : Nat) : Li.ordV x x n n = 0 := by
  unfold Li.ordV Li.cmpN
  cases x <;> simp
/-- A whole number as a quotient. -/
def QW (w : World) (v : Int) (t : Value × Value × Value) : Prop := Li.Qt w t.1 t.2.1 t.2.2 (decide (v < 0)) v.natAbs 1
theorem QW.keep {w w' : World} {v : Int} {t : Value × Value × Value} (h : QW w v t) (k : Keep w w') : QW w' v t := Li.Qt.keep h k
theorem QW.shape {w : World} {v : Int} {t : Value × Value × Value} (h : QW w v t) : ∃ an n cn ad m cd, t = (.bool (decide (v < 0)), .slice an n cn, .slice ad m cd) ∧ NatV w (.slice an n cn) v.natAbs := by
  obtain ⟨x, y, z⟩ := t
  obtain ⟨an, cn, ln, ad, cd, ld, h1, h2, h3, hA, n1, n2, e1, e2, b1, b2⟩ := h
  simp only at h1 h2 h3
  subst h1 h2 h3
  exact ⟨an, _, cn, ad, _, cd, rfl, an, cn, ln, rfl, hA.hca, hA.hra, hA.hma, n1, e1⟩
theorem rd_same {w w' : World} {a : Option Addr} {l : List Nat} (h : Li.Rd w a l) (b : Li.TB w a) (k : ∀ (b : Nat) (cur : Array Value), w.heap[b]? = some (Obj.cells cur 62 (0, 0)) → w'.heap[b]? = w.heap[b]?) : Li.Rd w' a l := by
  intro j hj
  obtain ⟨g, o, rfl, c⟩ := h j hj
  obtain ⟨cur, hc⟩ := b _ rfl
  refine ⟨g, o, rfl, ?_⟩
  rw [World.cell?_of_block (a := ⟨g, o + j, none⟩) (k g cur hc)]
  exact c
/-- It lies in blocks of limbs. -/
theorem QW.same {w w' : World} {v : Int} {t : Value × Value × Value} (h : QW w v t) (k : ∀ (b : Nat) (cur : Array Value), w.heap[b]? = some (Obj.cells cur 62 (0, 0)) → w'.heap[b]? = w.heap[b]?) : QW w' v t := by
  obtain ⟨an, cn, ln, ad, cd, ld, h1, h2, h3, hA, n1, n2, e1, e2, b1, b2⟩ := h
  exact ⟨an, cn, ln, ad, cd, ld, h1, h2, h3, ⟨hA.hca, hA.hcb, hA.hla, hA.hlb, rd_same hA.hra b1 k, rd_same hA.hrb b2 k, hA.hma, hA.hmb⟩, n1, n2, e1, e2, b1.same (fun p e => by obtain ⟨cur, hc⟩ := b1 p e; exact k _ _ hc), b2.same (fun p e => by obtain ⟨cur, hc⟩ := b2 p e; exact k _ _ hc)⟩
theorem Whole_w (v : Int) (w : World) (h1 : -9223372036854775808 ≤ v) (h2 : v ≤ 9223372036854775807) :
    Calls Tryz.prog 7 #[.int .i64 v] w fun e w' => ∃ t, e = .returned (.agg #[t.1, t.2.1, t.2.2]) ∧ QW w' v t ∧ Keep w w' := by
  refine (Li.Whole_q v w h1 h2).mono ?_
  rintro e w' ⟨x, y, z, rfl, q, k⟩
  exact ⟨(x, y, z), rfl, q, k⟩
theorem Order_w {a b : Int} {s t : Value × Value × Value} (w : World) (hA : QW w a s) (hB : QW w b t) (hab : a = b) :
    Calls Tryz.prog 9 #[.agg #[s.1, s.2.1, s.2.2], .agg #[t.1, t.2.1, t.2.2]] w fun e w' => e = .returned (.tuple #[.int .i64 0, .int .i64 0]) ∧ Keep w w' := by
  subst hab
  have h := Li.Order_q w hA hB (by decide) (by decide)
  rw [ord_self] at h
  exact h
theorem Plus_w {a b : Int} {s t : Value × Value × Value} (w : World) (hA : QW w a s) (hB : QW w b t) (h1 : (a + b).natAbs < 9223372036854775808) :
    Calls Tryz.prog 13 #[.agg #[s.1, s.2.1, s.2.2], .agg #[t.1, t.2.1, t.2.2]] w fun e w' => ∃ u, e = .returned (.tuple #[.agg #[u.1, u.2.1, u.2.2], .int .i64 0]) ∧ QW w' (a + b) u ∧ Keep w w' := by
  obtain ⟨p1, p2⟩ := plus_whole a b
  refine (Li.Plus_q w hA hB ?_ (by decide)).mono ?_
  · rw [p1]
    exact Nat.lt_trans h1 (by decide)
  · rintro e w' ⟨x, y, z, rfl, q, k⟩
    rw [p1, p2, rn_one, rd_one] at q
    exact ⟨(x, y, z), rfl, q, k⟩
end Go.Proofs.YtinjikoocegooaaGreatDoor
set_option linter.unusedVariables false
set_option linter.unusedSimpArgs false
namespace Go.Proofs.YtinjikoocegooaaGreatDoor
open Go.RowKit Go.Shelf
abbrev V3 := Value × Value × Value
def tq0 : V3 := (.bool false, .slice none 0 0, .slice none 0 0)
/-- Quotients as cells. -/
def TL : List V3 → List Value
  | [] => []
  | t :: l => t.1 :: t.2.1 :: t.2.2 :: TL l
theorem TL_len : ∀ l, (TL l).length = l.length * 3
  | [] => rfl
  | c :: l => by simp [TL, TL_len l]; omega
theorem TL_app : ∀ l m, TL (l ++ m) = TL l ++ TL m
  | [], m => rfl
  | c :: l, m => by simp [TL, TL_app l m]
theorem TL_get : ∀ (l : List V3) (j : Nat), j < l.length → (TL l)[j * 3]? = some (l.getD j tq0).1 ∧ (TL l)[j * 3 + 1]? = some (l.getD j tq0).2.1 ∧ (TL l)[j * 3 + 2]? = some (l.getD j tq0).2.2
  | c :: l, 0, _ => ⟨rfl, rfl, rfl⟩
  | c :: l, j + 1, h => by
    have := TL_get l j (by simpa using h)
    rw [show (j + 1) * 3 = j * 3 + 3 by omega]
    simpa [TL] using this
theorem TL_set : ∀ (l : List V3) (j : Nat) (c : V3), ((((TL l).set (j * 3) c.1).set (j * 3 + 1) c.2.1).set (j * 3 + 2) c.2.2) = TL (l.set j c)
  | [], j, c => rfl
  | d :: l, 0, c => rfl
  | d :: l, j + 1, c => by
    have := TL_set l j c
    rw [show (j + 1) * 3 = j * 3 + 3 by omega]
    simp only [TL, List.set_cons_succ, ← this]
def OwnQ (B : Nat) (w : World) (v : Value) (K : List V3) : Prop := w.ownsRow B 36 3 v K.length (TL K)
theorem OwnQ.nil (B : Nat) (w : World) : OwnQ B w (.slice none 0 0) [] := ⟨rfl, .inl ⟨rfl, rfl⟩⟩
theorem OwnQ.same {B : Nat} {w w' : World} {v : Value} {K : List V3} (h : OwnQ B w v K) (k : ∀ (b : Nat) (cur : Array Value), w.heap[b]? = some (Obj.cells cur 36 (0, 0)) → v.ownBlock = some b → w'.heap[b]? = w.heap[b]?) : OwnQ B w' v K := by
  refine ⟨h.1, ?_⟩
  rcases h.2 with h2 | ⟨g, cap, cur, hv, hg, hh, r⟩
  · exact .inl h2
  · exact .inr ⟨g, cap, cur, hv, hg, by rw [k g cur hh (by rw [hv]; rfl)]; exact hh, r⟩
theorem OwnQ.keep {B : Nat} {w w' : World} {v : Value} {K : List V3} (h : OwnQ B w v K) (k : Keep w w') : OwnQ B w' v K := h.same fun b cur hb _ => k.block b (Array.getElem?_eq_some_iff.1 hb).1
theorem OwnQ.block {B : Nat} {w : World} {v : Value} {K : List V3} (h : OwnQ B w v K) {b : Nat} (hb : v.ownBlock = some b) : B ≤ b ∧ ∃ cur, w.heap[b]? = some (.cells cur 36 (0, 0)) := by
  rcases h.2 with ⟨h1, _⟩ | ⟨g, cap, cur, hv, hg, hh, r⟩
  · rw [h1] at hb; cases hb
  · rw [hv] at hb
    have hb : some g = some b := hb
    simp only [Option.some.injEq] at hb
    subst hb
    exact ⟨hg, cur, hh⟩
/-- Its cells, and its block. -/
theorem OwnQ.at {B : Nat} {w : World} {v : Value} {K : List V3} (h : OwnQ B w v K) (h0 : 0 < K.length) : ∃ g c, v = .slice (some ⟨g, 0, none⟩) K.length c ∧ K.length ≤ c ∧ B ≤ g ∧ ∀ j, j < K.length → w.cell? ⟨g, j * 3, none⟩ = some (K.getD j tq0).1 ∧ w.cell? ⟨g, j * 3 + 1, none⟩ = some (K.getD j tq0).2.1 ∧ w.cell? ⟨g, j * 3 + 2, none⟩ = some (K.getD j tq0).2.2 ∧ w.frozen? ⟨g, j * 3, none⟩ = false ∧ w.frozen? ⟨g, j * 3 + 1, none⟩ = false ∧ w.frozen? ⟨g, j * 3 + 2, none⟩ = false := by
  rcases h.2 with ⟨h1, h2⟩ | ⟨g, cap, cur, hv, hg, hh, h1, h2, h3, h4⟩
  · omega
  · refine ⟨g, cap, hv, h1, hg, fun j hj => ?_⟩
    obtain ⟨a1, a2, a3⟩ := TL_get K j hj
    have hc : ∀ i, i < K.length * 3 → w.cell? ⟨g, i, none⟩ = (TL K)[i]? := fun i hi => by
      rw [cell_of_row w g i cur 36 (0, 0) hh, ← h4]
      simp [hi]
    exact ⟨by rw [hc _ (by omega)]; exact a1, by rw [hc _ (by omega)]; exact a2, by rw [hc _ (by omega)]; exact a3, frozen_of_row w g _ _ 36 hh, frozen_of_row w g _ _ 36 hh, frozen_of_row w g _ _ 36 hh⟩
theorem own_set {B e s n : Nat} {w : World} {g c : Nat} {xs : List Value} (h : w.ownsRow B e s (.slice (some ⟨g, 0, none⟩) n c) n xs) (i : Nat) (hi : i < n * s) (u : Value) : (w.setCell ⟨g, i, none⟩ u).ownsRow B e s (.slice (some ⟨g, 0, none⟩) n c) n (xs.set i u) := by
  refine ⟨by rw [List.length_set]; exact h.1, ?_⟩
  rcases h.2 with ⟨h1, -⟩ | ⟨g', cap, cur, hv, hg, hh, h1, h2, h3, h4⟩
  · simp at h1
  · simp only [Value.slice.injEq, Option.some.injEq, Addr.mk.injEq, and_true, true_and] at hv
    obtain ⟨rfl, rfl⟩ := hv
    refine .inr ⟨g, c, cur.setIfInBounds i u, rfl, hg, heap_setCell_same w g i cur e u hh, h1, h2, by simpa using h3, ?_⟩
    rw [Array.toList_setIfInBounds, List.take_set, h4]
theorem OwnQ.put {B : Nat} {w : World} {g c : Nat} {K : List V3} (h : OwnQ B w (.slice (some ⟨g, 0, none⟩) K.length c) K) {j : Nat} (hj : j < K.length) (t : V3) :
    OwnQ B (((w.setCell ⟨g, j * 3, none⟩ t.1).setCell ⟨g, j * 3 + 1, none⟩ t.2.1).setCell ⟨g, j * 3 + 2, none⟩ t.2.2) (.slice (some ⟨g, 0, none⟩) K.length c) (K.set j t) := by
  have h' : w.ownsRow B 36 3 (.slice (some ⟨g, 0, none⟩) K.length c) K.length (TL K) := h
  have a := own_set (own_set (own_set h' (j * 3) (by omega) t.1) (j * 3 + 1) (by omega) t.2.1) (j * 3 + 2) (by omega) t.2.2
  rw [TL_set] at a
  unfold OwnQ
  rw [List.length_set]
  exact a
theorem i36 : (Tryz.prog.info? 36).map (fun i => (i.zero, i.size, i.bytes)) = some (some (.agg #[.bool false, .slice none 0 0, .slice none 0 0]), 3, 56) := by kernel_rfl
theorem wpList_appQ (B : Nat) (w : World) {ops : Array Oper} {rest : List Oper} {o : Oper} {a : Act} {Q : Exit → Act → World → Prop} (hgd : o.guard = none) (s x : Operand)
    (hop : o.op = .call { callee := .builtin .append, args := #[s, x], argTypes := #[33, 33] }) (K : List V3) (t : V3) (v : Value) (hs : a.eval s = v) (hown : OwnQ B w v K) (hB : B ≤ w.heap.size) (h1 : t.1.oneCell' = true) (h2 : t.2.1.oneCell' = true) (h3 : t.2.2.oneCell' = true) (hx : a.eval x = .slice (some ⟨w.heap.size, 0, none⟩) 1 1) (hn : K.length + 1 ≤ 1099511627776)
    (hK : ∀ v' w', OwnQ B w' v' (K ++ [t]) → (w.alloc (.cells #[t.1, t.2.1, t.2.2] 36)).grownBy w' v.ownBlock → wpList Tryz.prog ops Q rest (a.put o.dst v') w') :
    wpList Tryz.prog ops Q (o :: rest) a (w.alloc (.cells #[t.1, t.2.1, t.2.2] 36)) := by
  refine wpList_plain hgd fun K' hK' => ?_
  obtain ⟨i0, hi, hz0, hz1, hz2⟩ := info_parts i36
  have hh : (w.alloc (.cells #[t.1, t.2.1, t.2.2] 36)).heap[w.heap.size]? = some (.cells #[t.1, t.2.1, t.2.2] 36 (0, 0)) := heap_alloc_new w _
  obtain ⟨v', w', hrun, r1, r2, -⟩ := run_append_own (P := Tryz.prog) (w.alloc (.cells #[t.1, t.2.1, t.2.2] 36)) B 33 o.type 36 i0 _ 3 56 Tryz.underlying33 hi hz0 hz1 hz2 rfl (by decide) v _ _ (hown.keep ((Keep.refl w).alloc _)) ⟨w.heap.size, 0, none⟩ 1 1 [t.1, t.2.1, t.2.2] (by simp) (by
    intro j u hj
    rw [Addr.add_lit, Nat.zero_add, cell_of_row _ _ j _ 36 (0, 0) hh, ← hj]
    simp) (by
    intro u hu
    simp at hu
    rcases hu with h | h | h
    · rw [h]; exact h1
    · rw [h]; exact h2
    · rw [h]; exact h3) (by simp only [maxLen]; omega) (Nat.le_trans (Nat.mul_le_mul_right 56 hn) (by decide)) (by rw [World.size_alloc]; omega)
  unfold Oper.wp
  simp [execOp, hop, resolve, invoke, builtin, hs, hx, hrun, Result.andThen]
  refine hK' _ _ (hK v' w' ?_ r2)
  unfold OwnQ
  rw [TL_app, List.length_append]
  exact r1
/-- Quotients that are whole numbers. -/
def QL (w : World) (E : List Int) (K : List V3) : Prop := K.length = E.length ∧ ∀ j, j < E.length → QW w (E.getD j 0) (K.getD j tq0)
theorem QL.same {w w' : World} {E : List Int} {K : List V3} (h : QL w E K) (k : ∀ (b : Nat) (cur : Array Value), w.heap[b]? = some (Obj.cells cur 62 (0, 0)) → w'.heap[b]? = w.heap[b]?) : QL w' E K := ⟨h.1, fun j hj => (h.2 j hj).same k⟩
theorem QL.keep {w w' : World} {E : List Int} {K : List V3} (h : QL w E K) (k : Keep w w') : QL w' E K := ⟨h.1, fun j hj => (h.2 j hj).keep k⟩
theorem QL.put {w : World} {E : List Int} {K : List V3} (h : QL w E K) {u : Nat} {x : Int} {t : V3} (ht : QW w x t) (hu : u < E.length) : QL w (E.set u x) (K.set u t) := by
  refine ⟨by rw [List.length_set, List.length_set]; exact h.1, fun j hj => ?_⟩
  rw [List.length_set] at hj
  by_cases e : j = u
  · subst e
    simpa [List.getD, hj, show j < K.length by rw [h.1]; exact hj] using ht
  · have := h.2 j hj
    simpa [List.getD, List.getElem?_set, Ne.symm e] using this
theorem QL.snoc {w : World} {E : List Int} {K : List V3} (h : QL w E K) {x : Int} {t : V3} (ht : QW w x t) : QL w (E ++ [x]) (K ++ [t]) := by
  refine ⟨by simp [h.1], fun j hj => ?_⟩
  by_cases e : j < E.length
  · have := h.2 j e
    simpa [List.getD, List.getElem?_append_left, e, show j < K.length by rw [h.1]; exact e] using this
  · have e1 : j = E.length := by simp at hj; omega
    subst e1
    have : (K ++ [t])[E.length]? = some t := by rw [← h.1]; simp
    simpa [List.getD, this] using ht
end Go.Proofs.YtinjikoocegooaaGreatDoor
set_option linter.unusedVariables false
set_option linter.unusedSimpArgs false
namespace Go.Proofs.YtinjikoocegooaaGreatDoor
open Go.RowKit Go.Shelf
/-- The first k places, each holding its number. -/
def rk (T k : Nat) : List Nat := (List.range T).map fun i => if i < k then i else 0
theorem rk_len (T k : Nat) : (rk T k).length = T := by simp [rk]
theorem rk_zero (T : Nat) : rk T 0 = List.replicate T 0 := by
  apply List.ext_getElem
  · simp [rk]
  · intro i h1 h2; simp [rk]
theorem rk_all (T : Nat) : rk T T = List.range T := by
  apply List.ext_getElem
  · simp [rk]
  · intro i h1 h2; simp [rk] at h1 ⊢; omega
theorem rk_next (T k : Nat) (h : k < T) : (rk T k).set k k = rk T (k + 1) := by
  apply List.ext_getElem
  · simp [rk]
  · intro i h1 h2
    simp only [rk, List.getElem_set, List.getElem_map, List.getElem_range]
    by_cases e : k = i
    · subst e; simp
    · rw [if_neg e]
      by_cases q : i < k
      · rw [if_pos q, if_pos (by omega)]
      · rw [if_neg q, if_neg (by omega)]
theorem wpList_makeI2 (w : World) {ops : Array Oper} {rest : List Oper} {o : Oper} {a : Act} {Q : Exit → Act → World → Prop}
    (hg : o.guard = none) (l c : Operand) (hop : o.op = Op.makeSlice 28 l c) (kl kc : IntKind) (X C : Int) (n : Nat) (hl : a.eval l = .int kl X) (hc : a.eval c = .int kc C) (hL : X = (n : Int)) (hC : C = (n : Int)) (hn : n ≤ 17592186044416)
    (hK : ∀ w1, RowI w1 w.heap.size (List.replicate n 0) → Keep w w1 → w1.heap.size = w.heap.size + 1 → wpList Tryz.prog ops Q rest (a.put o.dst (.slice (some ⟨w.heap.size, 0, none⟩) n n)) w1) :
    wpList Tryz.prog ops Q (o :: rest) a w := by
  refine wpList_plain hg fun K hK' => ?_
  obtain ⟨i, hi, hz0, hz1, hz2⟩ := info_parts i3
  have hr := run_make (P := Tryz.prog) w 28 3 i _ Tryz.underlying28 hi hz0 kl kc n n (by omega) (by omega) (by rw [hz2]; omega) (by omega)
  subst hL
  subst hC
  rw [hz1] at hr
  simp only [Int.toNat_natCast, Nat.mul_one, made3] at hr
  unfold Oper.wp
  simp [execOp, hop, hl, hc, hr, Result.andThen]
  exact hK' _ _ (hK _ (heap_alloc_new w _) ((Keep.refl w).alloc _) (World.size_alloc _ _))
end Go.Proofs.YtinjikoocegooaaGreatDoor
namespace Go.Proofs.YtinjikoocegooaaGreatDoor
open Go.RowKit Go.Shelf
theorem QL.grown {w w' : World} {B : Nat} {v : Value} {K K' : List V3} {E : List Int} {ob : Obj} (h : QL w E K') (ho : OwnQ B w v K) (g : (w.alloc ob).grownBy w' v.ownBlock) : QL w' E K' := h.same (fun b cur hb => by
  have hl : b < w.heap.size := lt_of_at hb
  rw [g.block b (by rw [World.size_alloc]; omega) (fun e => by
    obtain ⟨_, cur', h'⟩ := ho.block e.symm
    rw [hb] at h'
    simp at h')]
  exact ((Keep.refl w).alloc ob).block b hl)
theorem keep_grownQ {W w w' : World} {B : Nat} {v : Value} {K : List V3} {ob : Obj} (k : Keep W w) (hB : W.heap.size ≤ B) (ho : OwnQ B w v K) (g : (w.alloc ob).grownBy w' v.ownBlock) : Keep W w' :=
  Below.grown (k.alloc ob) g (k.alloc ob).le (fun b hb => Nat.le_trans hB (ho.block hb).1)
theorem take_snoc {l : List Int} {k : Nat} (h : k < l.length) : l.take (k + 1) = l.take k ++ [l.getD k 0] := by
  rw [List.take_succ_eq_append_getElem h]
  simp [List.getD, h]
end Go.Proofs.YtinjikoocegooaaGreatDoor
namespace Go.Proofs.YtinjikoocegooaaGreatDoor
open Go.RowKit Go.Shelf
theorem Cmp_le (x y : Nat) (vx vy : Value) (w : World) (hx : NatV w vx x) (hy : NatV w vy y) (hbx : x < 340282366920938463463374607431768211456) (hby : y < 340282366920938463463374607431768211456) (hxy : x ≤ y) : Calls Tryz.prog 11 #[vx, vy] w fun e w' => (∃ c : Int, e = .returned (.int .i64 c) ∧ decide (0 < c) = false) ∧ Keep w w' := by
  obtain ⟨a, c, l, rfl, h1, h2, h3, h4, rfl⟩ := hx
  obtain ⟨a', c', l', rfl, h1', h2', h3', h4', rfl⟩ := hy
  have q1 := nat_len h4 hbx
  have q2 := nat_len h4' hby
  refine (Li.Cmp_any a a' c c' l l' w h1 h1' (by omega) (by omega) h2 h2').mono ?_
  rintro e w' ⟨rfl, k⟩
  refine ⟨⟨_, rfl, ?_⟩, k.keep⟩
  rw [nrm_take h4 h3, nrm_take h4' h3', Li.cmpL_eq l l' h3 h3' h4 h4']
  refine decide_eq_false ?_
  unfold Li.cmpN
  split
  · omega
  · rw [if_neg (by omega)]; omega
theorem wpList_appT2 (B : Nat) (w : World) {ops : Array Oper} {rest : List Oper} {o : Oper} {a : Act} {Q : Exit → Act → World → Prop} (hgd : o.guard = none) (s x : Operand)
    (ho : o.op = .call { callee := .builtin .append, args := #[s, x], argTypes := #[24, 24] }) (l : List (Int × Option Addr × Nat × Nat)) (out : Int) (an : Option Addr) (n cn : Nat) (v : Value) (hs : a.eval s = v) (hown : OwnT B w v l) (hB : B ≤ w.heap.size) (hlen : l.length + 1 ≤ 4398046511104)
    (hx : a.eval x = .slice (some ⟨w.heap.size, 0, none⟩) 1 1)
    (hK : ∀ v' w', OwnT B w' v' (l ++ [(out, an, n, cn)]) → (w.alloc (.cells #[.int .i64 out, .slice an n cn] 48)).grownBy w' v.ownBlock → wpList Tryz.prog ops Q rest (a.put o.dst v') w') :
    wpList Tryz.prog ops Q (o :: rest) a (w.alloc (.cells #[.int .i64 out, .slice an n cn] 48)) := by
  refine wpList_plain hgd fun K' hK' => ?_
  obtain ⟨v', w', hr, h2, h3, h4⟩ := appT_sep B (w.alloc (.cells #[.int .i64 out, .slice an n cn] 48)) o.type v l (out, an, n, cn) (hown.keep ((Keep.refl w).alloc _)) (by rw [World.size_alloc]; omega) ⟨w.heap.size, 0, none⟩ 1 (newsT w out an n cn) hlen
  unfold Oper.wp
  simp [execOp, ho, resolve, invoke, builtin, hs, hx, hr, Result.andThen]
  exact hK' _ _ (hK v' w' h2 h3)
theorem grownT_other {B : Nat} {w w' : World} {v : Value} {K : List (Int × Option Addr × Nat × Nat)} {ob : Obj} (ho : OwnT B w v K) (g : (w.alloc ob).grownBy w' v.ownBlock) {b t : Nat} {cur : Array Value} (hb : w.heap[b]? = some (.cells cur t (0, 0))) (ht : t ≠ 48) : w'.heap[b]? = w.heap[b]? := by
  have hl : b < w.heap.size := lt_of_at hb
  rw [g.block b (by rw [World.size_alloc]; omega) (fun e => by
    obtain ⟨_, cur', h'⟩ := ho.block e.symm
    rw [hb] at h'
    simp at h'
    exact ht h'.2)]
  exact ((Keep.refl w).alloc ob).block b hl
/-- One tree more. -/
theorem FJt.step2 {w4 wr w7 : World} {g : Nat} {h0 h1 h2 h3 : Value} {us : List (Int × List Nd)} {v v' : Value} {K : List (Int × Option Addr × Nat × Nat)} {ob : Obj} {out : Int} {L : List Nd} {an : Option Addr} {cn : Nat} (h : FJt w4 g h0 h1 h2 h3 us wr v K)
    (hc : L.length ≤ cn) (hn : RdN w4 an L) (hl : L.length ≤ 2199023255552) (hf : -9223372036854775808 ≤ out ∧ out ≤ 9223372036854775807) (hO : OwnT (g + 1) w7 v' (K ++ [(out, an, L.length, cn)])) (g7 : (wr.alloc ob).grownBy w7 v.ownBlock) :
    FJt w4 g h0 h1 h2 h3 (us ++ [(out, L)]) (w7.setCell ⟨g, 4, none⟩ v') v' (K ++ [(out, an, L.length, cn)]) ∧ w7.heap[g]? = some (.cells #[h0, h1, h2, h3, v] 26 (0, 0)) := by
  have hlt : ∀ b, v.ownBlock = some b → g + 1 ≤ b := fun b hb => (h.own.block hb).1
  have hg : g < wr.heap.size := lt_of_at h.bx
  have kd : Keep w4 (wr.alloc ob) := (h.kp).alloc _
  have e1 : w7.heap[g]? = some (.cells #[h0, h1, h2, h3, v] 26 (0, 0)) := by
    rw [g7.block g (by rw [World.size_alloc]; omega) (fun e => by have := hlt g e.symm; omega)]
    exact ((Keep.refl wr).alloc ob).at h.bx
  refine ⟨⟨by simp [h.len], ?_, ?_, ?_, h.gl, ?_⟩, e1⟩
  · intro j hj
    rw [getD_snocT, getD_snocU, h.len]
    by_cases e : j = us.length
    · rw [if_pos e, if_pos e]; exact ⟨rfl, rfl, hc, hn, hl, hf⟩
    · rw [if_neg e, if_neg e]; exact h.eq j (by simp at hj; omega)
  · exact hO.same (fun b hb => neq_set w7 _ _ _ b (by have := (hO.block hb).1; omega))
  · exact Keep.setCell (Below.grown kd g7 kd.le (fun b hb => by have := hlt b hb; have := h.gl; omega)) (p := ⟨g, 4, none⟩) h.gl _
  · have := heap_setCell_same w7 g 4 _ 26 v' e1
    simpa using this
end Go.Proofs.YtinjikoocegooaaGreatDoor
namespace Go.Proofs.YtinjikoocegooaaGreatDoor
open Go.RowKit Go.Shelf
theorem OwnQ.cells {B : Nat} {w : World} {g n c : Nat} {K : List V3} (h : OwnQ B w (.slice (some ⟨g, 0, none⟩) n c) K) {j : Nat} (hj : j < K.length) : w.cell? ⟨g, j * 3, none⟩ = some (K.getD j tq0).1 ∧ w.cell? ⟨g, j * 3 + 1, none⟩ = some (K.getD j tq0).2.1 ∧ w.cell? ⟨g, j * 3 + 2, none⟩ = some (K.getD j tq0).2.2 ∧ w.frozen? ⟨g, j * 3, none⟩ = false ∧ w.frozen? ⟨g, j * 3 + 1, none⟩ = false ∧ w.frozen? ⟨g, j * 3 + 2, none⟩ = false := by
  obtain ⟨g', c', e, -, -, hc⟩ := h.at (by omega)
  simp only [Value.slice.injEq, Option.some.injEq, Addr.mk.injEq, and_true] at e
  obtain ⟨rfl, -, -⟩ := e
  exact hc j hj
end Go.Proofs.YtinjikoocegooaaGreatDoor
namespace Go.Proofs.YtinjikoocegooaaGreatDoor
open Go.RowKit Go.Shelf
/-- A variable with a whole number as a quotient. -/
def QBx (w wx : World) (v : Value) (x : Int) : Prop := ∃ B a l c b m f, v = .pointer (some ⟨B, 0, none⟩) ∧ w.heap.size ≤ B ∧ wx.heap[B]? = some (.cells #[.bool (decide (x < 0)), .slice a l c, .slice b m f] 36 (0, 0)) ∧ QW wx x (.bool (decide (x < 0)), .slice a l c, .slice b m f) ∧ Keep w wx
theorem heap3q (w : World) (g : Nat) {x0 x1 x2 : Value} (v0 v1 v2 : Value) (h : w.heap[g]? = some (.cells #[x0, x1, x2] 36 (0, 0))) :
    (((w.setCell ⟨g, 0, none⟩ v0).setCell ⟨g, 1, none⟩ v1).setCell ⟨g, 2, none⟩ v2).heap[g]? = some (.cells #[v0, v1, v2] 36 (0, 0)) := by
  have a0 := heap_setCell_same w g 0 _ 36 v0 h
  have a1 := heap_setCell_same _ g 1 _ 36 v1 a0
  have a2 := heap_setCell_same _ g 2 _ 36 v2 a1
  simpa using a2
theorem neq3 (w : World) (g i j m : Nat) (v0 v1 v2 : Value) (k : Nat) (hk : k ≠ g) :
    (((w.setCell ⟨g, i, none⟩ v0).setCell ⟨g, j, none⟩ v1).setCell ⟨g, m, none⟩ v2).heap[k]? = w.heap[k]? := by
  rw [neq_set _ g m v2 k hk, neq_set _ g j v1 k hk, neq_set _ g i v0 k hk]
/-- Three stores into a block of quotients change no limbs. -/
theorem QW.put3 {w : World} {v : Int} {t : V3} (h : QW w v t) {g : Nat} {cur : Array Value} (hg : w.heap[g]? = some (.cells cur 36 (0, 0))) (i j m : Nat) (v0 v1 v2 : Value) : QW (((w.setCell ⟨g, i, none⟩ v0).setCell ⟨g, j, none⟩ v1).setCell ⟨g, m, none⟩ v2) v t :=
  h.same fun b c hb => neq3 w g i j m v0 v1 v2 b (fun e => by rw [e, hg] at hb; simp at hb)
theorem QL.put3 {w : World} {E : List Int} {K : List V3} (h : QL w E K) {g : Nat} {cur : Array Value} (hg : w.heap[g]? = some (.cells cur 36 (0, 0))) (i j m : Nat) (v0 v1 v2 : Value) : QL (((w.setCell ⟨g, i, none⟩ v0).setCell ⟨g, j, none⟩ v1).setCell ⟨g, m, none⟩ v2) E K :=
  ⟨h.1, fun q hq => (h.2 q hq).put3 hg i j m v0 v1 v2⟩
theorem cells3q {w : World} {g : Nat} {x0 x1 x2 : Value} (h : w.heap[g]? = some (.cells #[x0, x1, x2] 36 (0, 0))) : w.cell? ⟨g, 0, none⟩ = some x0 ∧ w.cell? ⟨g, 1, none⟩ = some x1 ∧ w.cell? ⟨g, 2, none⟩ = some x2 ∧ w.frozen? ⟨g, 0, none⟩ = false ∧ w.frozen? ⟨g, 1, none⟩ = false ∧ w.frozen? ⟨g, 2, none⟩ = false :=
  ⟨cell_of_row _ _ 0 _ 36 (0, 0) h, cell_of_row _ _ 1 _ 36 (0, 0) h, cell_of_row _ _ 2 _ 36 (0, 0) h, frozen_of_row _ _ 0 _ 36 h, frozen_of_row _ _ 1 _ 36 h, frozen_of_row _ _ 2 _ 36 h⟩
theorem keep3q {w0 w : World} (h : Keep w0 w) (g i j m : Nat) (hg : w0.heap.size ≤ g) (v0 v1 v2 : Value) : Keep w0 (((w.setCell ⟨g, i, none⟩ v0).setCell ⟨g, j, none⟩ v1).setCell ⟨g, m, none⟩ v2) :=
  ((h.setCell (p := ⟨g, i, none⟩) hg v0).setCell (p := ⟨g, j, none⟩) hg v1).setCell (p := ⟨g, m, none⟩) hg v2
end Go.Proofs.YtinjikoocegooaaGreatDoor
namespace Go.Proofs.YtinjikoocegooaaGreatDoor
open Go.RowKit Go.Shelf
theorem FJt.put3 {w4 w : World} {g gq : Nat} {h0 h1 h2 h3 : Value} {us : List (Int × List Nd)} {v : Value} {K : List (Int × Option Addr × Nat × Nat)} (h : FJt w4 g h0 h1 h2 h3 us w v K) {cur : Array Value} (hg : w.heap[gq]? = some (.cells cur 36 (0, 0))) (hq : w4.heap.size ≤ gq) (i j m : Nat) (v0 v1 v2 : Value) : FJt w4 g h0 h1 h2 h3 us (((w.setCell ⟨gq, i, none⟩ v0).setCell ⟨gq, j, none⟩ v1).setCell ⟨gq, m, none⟩ v2) v K := by
  refine ⟨h.len, h.eq, h.own.same (fun b hb => neq3 w gq i j m v0 v1 v2 b (fun e => ?_)), keep3q h.kp gq i j m hq v0 v1 v2, h.gl, ?_⟩
  · obtain ⟨_, c, hc⟩ := h.own.block hb
    rw [e, hg] at hc
    simp at hc
  · rw [neq3 w gq i j m v0 v1 v2 g (fun e => by have := h.bx; rw [e, hg] at this; simp at this)]
    exact h.bx
theorem sk_put {xs : List Nat} {base : List Int} {us : List (Int × List Nd)} {E : List Int} {u : Nat} {L : List Nd} (hE : sk xs base us us.length = E) (hb : -9223372036854775808 ≤ E.getD u 0 + lfV L xs ∧ E.getD u 0 + lfV L xs ≤ 9223372036854775807) : sk xs base (us ++ [((u : Int), L)]) (us ++ [((u : Int), L)]).length = E.set u (E.getD u 0 + lfV L xs) := by
  rw [List.length_append, show ([((u : Int), L)] : List (Int × List Nd)).length = 1 from rfl, sk_snoc, hE]
  simp only [Int.toNat_natCast]
  rw [IntWalk.wrap64_in _ (by omega)]
end Go.Proofs.YtinjikoocegooaaGreatDoor
namespace Go.Proofs.YtinjikoocegooaaGreatDoor
open Go.RowKit Go.Shelf
theorem next_round {w5 wz : World} {g B gq bl cq n T u : Nat} {h0 h1 h2 h3 v : Value} {ts us : List (Int × List Nd)} {P : List Nat} {L : List Nd} {xs : List Nat} {base E' : List Int} {Kt : List (Int × Option Addr × Nat × Nat)} {Kq : List V3}
    (hn : n < T) (hP : pick ts (P.take (n + 1)) = us ++ [((u : Int), L)]) (hS : sk xs base (us ++ [((u : Int), L)]) (us ++ [((u : Int), L)]).length = E')
    (hF : FJt w5 g h0 h1 h2 h3 (us ++ [((u : Int), L)]) wz v Kt ∧ OwnQ B wz (.slice (some ⟨gq, 0, none⟩) bl cq) Kq ∧ QL wz E' Kq) :
    (∃ (m : Nat) (vt : Value) (Kt : List (Int × Option Addr × Nat × Nat)) (Kq : List V3), m ≤ T ∧ Value.int IntKind.i64 ((n : Int) + 1) = Value.int IntKind.i64 (m : Int) ∧ FJt w5 g h0 h1 h2 h3 (pick ts (P.take m)) wz vt Kt ∧ OwnQ B wz (.slice (some ⟨gq, 0, none⟩) bl cq) Kq ∧ QL wz (sk xs base (pick ts (P.take m)) (pick ts (P.take m)).length) Kq) ∧ T + 1 - (n + 1) < T + 1 - n := by
  refine ⟨⟨n + 1, v, Kt, Kq, hn, by simp, ?_, hF.2.1, ?_⟩, by omega⟩
  · rw [hP]; exact hF.1
  · rw [hP, hS]; exact hF.2.2
end Go.Proofs.YtinjikoocegooaaGreatDoor
