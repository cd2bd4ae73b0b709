import Derived.Test.YtgmnadlmejkkpaaDoorK5
import Derived.Test.YtgmnadlmejkkpaaDoorH6
set_option linter.unusedVariables false
set_option linter.unusedSimpArgs false
namespace Go.Proofs.YtgmnadlmejkkpaaDoor
open Go.RowKit
/-- Runs with a gap between any two, none below e. -/
def Gd : Nat → List (Nat × Nat) → Prop
  | _, [] => True
  | e, r :: L => e ≤ r.1 ∧ r.1 < r.2 ∧ Gd (r.2 + 1) L
/-- A bit lies in one of the runs. -/
def InR (L : List (Nat × Nat)) (p : Nat) : Prop := ∃ r, r ∈ L ∧ r.1 ≤ p ∧ p < r.2
theorem Gd.low : ∀ {L : List (Nat × Nat)} {e p : Nat}, Gd e L → InR L p → e ≤ p
  | [], _, _, _, ⟨r, h, _⟩ => by cases h
  | q :: L, e, p, ⟨h1, h2, h3⟩, ⟨r, h, h4, h5⟩ => by
    rcases List.mem_cons.1 h with rfl | h
    · omega
    · have := Gd.low h3 ⟨r, h, h4, h5⟩
      omega
theorem InR_cons {q : Nat × Nat} {L : List (Nat × Nat)} {p : Nat} : InR (q :: L) p ↔ (q.1 ≤ p ∧ p < q.2) ∨ InR L p := by
  constructor
  · rintro ⟨r, h, h4, h5⟩
    rcases List.mem_cons.1 h with rfl | h
    · exact .inl ⟨h4, h5⟩
    · exact .inr ⟨r, h, h4, h5⟩
  · rintro (h | ⟨r, h, h4, h5⟩)
    · exact ⟨q, by simp, h⟩
    · exact ⟨r, by simp [h], h4, h5⟩
theorem Gd.one : ∀ {L M : List (Nat × Nat)} {e : Nat}, Gd e L → Gd e M → (∀ p, InR L p ↔ InR M p) → L = M
  | [], [], _, _, _, _ => rfl
  | [], r :: M, _, _, h, hb => by
    obtain ⟨_, h2, _⟩ := h
    obtain ⟨x, hx, _⟩ := (hb r.1).2 (InR_cons.2 (.inl ⟨Nat.le_refl _, h2⟩))
    cases hx
  | r :: L, [], _, h, _, hb => by
    obtain ⟨_, h2, _⟩ := h
    obtain ⟨x, hx, _⟩ := (hb r.1).1 (InR_cons.2 (.inl ⟨Nat.le_refl _, h2⟩))
    cases hx
  | (f, t) :: L, (g, u) :: M, e, hL, hM, hb => by
    obtain ⟨a1, a2, a3⟩ := hL
    obtain ⟨b1, b2, b3⟩ := hM
    dsimp only at a1 a2 a3 b1 b2 b3
    have c1 : g ≤ f := by
      rcases InR_cons.1 ((hb f).1 (InR_cons.2 (.inl ⟨Nat.le_refl _, a2⟩))) with h | h
      · exact h.1
      · have := b3.low h; omega
    have c2 : f ≤ g := by
      rcases InR_cons.1 ((hb g).2 (InR_cons.2 (.inl ⟨Nat.le_refl _, b2⟩))) with h | h
      · exact h.1
      · have := a3.low h; omega
    obtain rfl : f = g := by omega
    have c3 : t ≤ u := by
      rcases Nat.lt_or_ge u t with h | h
      · exfalso
        rcases InR_cons.1 ((hb u).1 (InR_cons.2 (.inl ⟨by show f ≤ u; omega, h⟩))) with h | h
        · have := h.2; dsimp only at this; omega
        · have := b3.low h; omega
      · exact h
    have c4 : u ≤ t := by
      rcases Nat.lt_or_ge t u with h | h
      · exfalso
        rcases InR_cons.1 ((hb t).2 (InR_cons.2 (.inl ⟨by show f ≤ t; omega, h⟩))) with h | h
        · have := h.2; dsimp only at this; omega
        · have := a3.low h; omega
      · exact h
    obtain rfl : t = u := by omega
    rw [Gd.one a3 b3 ?_]
    intro p
    constructor
    · intro h
      have h1 := a3.low h
      rcases InR_cons.1 ((hb p).1 (InR_cons.2 (.inr h))) with h2 | h2
      · have := h2.2; dsimp only at this; omega
      · exact h2
    · intro h
      have h1 := b3.low h
      rcases InR_cons.1 ((hb p).2 (InR_cons.2 (.inr h))) with h2 | h2
      · have := h2.2; dsimp only at this; omega
      · exact h2
theorem Gd_of : ∀ {L : List (Nat × Nat)} {n : Nat} (e : Nat), Ch L n → St L → (0 < L.length → e ≤ (L.getD 0 (0, 0)).1) → Gd e L
  | [], _, _, _, _, _ => trivial
  | r :: L, n, e, hc, hs', h0 => by
    refine ⟨by simpa using h0 (by simp), by simpa using (hc 0 (by simp)).1, Gd_of (n := n) _ ?_ ?_ ?_⟩
    · intro j hj
      have := hc (j + 1) (by simp; omega)
      simp only [List.getD_cons_succ, List.length_cons] at this
      exact ⟨this.1, this.2.1, fun h => this.2.2 (by omega)⟩
    · intro j hj
      have := hs' (j + 1) (by simp; omega)
      simpa using this
    · intro hl
      have := hs' 0 (by simp; omega)
      simp only [List.getD_cons_zero, Nat.zero_add, List.getD_cons_succ] at this
      omega
theorem InR_of {L : List (Nat × Nat)} {p : Nat} : InR L p ↔ ∃ j, j < L.length ∧ (L.getD j (0, 0)).1 ≤ p ∧ p < (L.getD j (0, 0)).2 := by
  constructor
  · rintro ⟨r, h, h1⟩
    obtain ⟨j, hj, e⟩ := List.mem_iff_getElem.1 h
    refine ⟨j, hj, ?_⟩
    simp only [List.getD, List.getElem?_eq_getElem hj, Option.getD_some, e]
    exact h1
  · rintro ⟨j, hj, h1⟩
    refine ⟨L.getD j (0, 0), ?_, h1⟩
    simp [List.getD, List.getElem?_eq_getElem hj]
/-- The runs of the bits, met one by one from below. -/
def psh (L : List (Nat × Nat)) (x : Nat) : List (Nat × Nat) := if 0 < L.length ∧ (L.getD (L.length - 1) (0, 0)).2 = x then L.dropLast ++ [((L.getD (L.length - 1) (0, 0)).1, x + 1)] else L ++ [(x, x + 1)]
def rnr (z : List Nat) : List (Nat × Nat) := z.foldl psh []
end Go.Proofs.YtgmnadlmejkkpaaDoor
namespace Go.Proofs.YtgmnadlmejkkpaaDoor
open Go.RowKit
theorem OwnR.mono {B B' : Nat} {w : World} {v : Value} {L : List (Nat × Nat)} (h : OwnR B w v L) (hB : B' ≤ B) : OwnR B' w v L := by
  refine ⟨h.1, ?_⟩
  rcases h.2 with h2 | ⟨g, cap, cur, hv, hg, r⟩
  · exact .inl h2
  · exact .inr ⟨g, cap, cur, hv, by omega, r⟩
theorem OwnR.keep {B : Nat} {w w' : World} {v : Value} {L : List (Nat × Nat)} (h : OwnR B w v L) (k : Keep w w') : OwnR B w' v L := by
  refine ⟨h.1, ?_⟩
  rcases h.2 with h2 | ⟨g, cap, cur, hv, hg, hh, r⟩
  · exact .inl h2
  · exact .inr ⟨g, cap, cur, hv, hg, by rw [k.block g (Array.getElem?_eq_some_iff.1 hh).1]; exact hh, r⟩
theorem psh_snoc (z : List Nat) (k : Nat) (h : k < z.length) : rnr (z.take (k + 1)) = psh (rnr (z.take k)) (z.getD k 0) := by
  rw [take_snoc z k h]
  unfold rnr
  rw [List.foldl_append]
  rfl
theorem psh_length (L : List (Nat × Nat)) (x : Nat) : (psh L x).length ≤ L.length + 1 := by
  unfold psh
  split
  · simp
  · simp
theorem rnr_length : ∀ (z : List Nat) (k : Nat), k ≤ z.length → (rnr (z.take k)).length ≤ k
  | _, 0, _ => by simp [rnr]
  | z, k + 1, h => by
    rw [psh_snoc z k (by omega)]
    have := psh_length (rnr (z.take k)) (z.getD k 0)
    have := rnr_length z k (by omega)
    omega
theorem UR_last : ∀ (D : List (Nat × Nat)) (f t t' : Nat), (UR (D ++ [(f, t)])).set (2 * D.length + 1) (.int .i64 (t' : Nat)) = UR (D ++ [(f, t')])
  | [], f, t, t' => by simp [UR]
  | r :: D, f, t, t' => by
    have := UR_last D f t t'
    rw [List.length_cons, show 2 * (D.length + 1) + 1 = 2 * D.length + 1 + 1 + 1 by omega]
    simp only [List.cons_append, UR, List.set_cons_succ]
    rw [this]
/-- The end of the last run, written over. -/
theorem OwnR.last {B : Nat} {w : World} {v : Value} {D : List (Nat × Nat)} {f t : Nat} (h : OwnR B w v (D ++ [(f, t)])) : ∃ g cap, v = .slice (some ⟨g, 0, none⟩) (D.length + 1) cap ∧ B ≤ g ∧ g < w.heap.size ∧ D.length + 1 ≤ cap ∧
    w.frozen? ⟨g, D.length * 2 + 1, none⟩ = false ∧ w.cell? ⟨g, D.length * 2 + 1, none⟩ = some (.int .i64 (t : Nat)) ∧ ∀ t' : Nat, OwnR B (w.setCell ⟨g, D.length * 2 + 1, none⟩ (.int .i64 (t' : Nat))) v (D ++ [(f, t')]) := by
  have hlen : (D ++ [(f, t)]).length = D.length + 1 := by simp
  rcases h.2 with ⟨h1, h2⟩ | ⟨g, cap, cur, hv, hg, hh, h1, h2, h3, h4⟩
  · rw [hlen] at h2; omega
  · rw [hlen] at hv h1 h4
    have hget := (UR_get (D ++ [(f, t)]) D.length (by simp)).2
    rw [getD_snoc, if_pos rfl] at hget
    refine ⟨g, cap, hv, hg, (Array.getElem?_eq_some_iff.1 hh).1, h1, ?_, ?_, ?_⟩
    · exact frozen_of_row w g _ _ 55 hh
    · rw [cell_of_row w g _ cur 55 (0, 0) hh, show D.length * 2 + 1 = 2 * D.length + 1 by omega, ← hget, ← h4]
      simp only [List.getElem?_take]
      rw [if_pos (by omega)]; simp
    · intro t'
      refine ⟨by rw [UR_length], .inr ⟨g, cap, cur.set! (D.length * 2 + 1) (.int .i64 (t' : Nat)), by rw [hv]; simp, hg, ?_, by simpa using h1, h2, by simpa using h3, ?_⟩⟩
      · exact heap_setCell_same w g _ _ 55 (.int .i64 (t' : Nat)) hh
      · rw [← UR_last D f t t', ← h4]
        simp [List.take_set, Nat.mul_comm]
theorem wpList_appR2 {w0 wr : World} {ops : Array Oper} {rest : List Oper} {o : Oper} {a : Act} {Q : Exit → Act → World → Prop} (hgd : o.guard = none) (s x : Operand)
    (ho : o.op = .call { callee := .builtin .append, args := #[s, x], argTypes := #[44, 44] }) (L : List (Nat × Nat)) (v : Value) (hs : a.eval s = v) (f t : Nat) (T : Int) (hT : T = (t : Int))
    (hx : a.eval x = .slice (some ⟨wr.heap.size, 0, none⟩) 1 1) (hown : OwnR w0.heap.size wr v L) (hk : Keep w0 wr) (hlen : L.length < 1099511627776)
    (hK : ∀ v' w1, OwnR w0.heap.size w1 v' (L ++ [(f, t)]) → Keep w0 w1 → wpList Tryd.prog ops Q rest (a.put o.dst v') w1) :
    wpList Tryd.prog ops Q (o :: rest) a (wr.alloc (.cells #[.int .i64 (f : Nat), .int .i64 T] 55)) := by
  subst hT
  exact wpList_appR hgd s x ho L v hs f t hx hown hk hlen hK
theorem snoc_of (L : List (Nat × Nat)) (h : 0 < L.length) : L = L.dropLast ++ [((L.getD (L.length - 1) (0, 0)).1, (L.getD (L.length - 1) (0, 0)).2)] := by
  have hne : L ≠ [] := by intro e; rw [e] at h; simp at h
  have e := List.dropLast_concat_getLast hne
  have : L.getD (L.length - 1) (0, 0) = L.getLast hne := by
    rw [List.getLast_eq_getElem]; simp [List.getD, List.getElem?_eq_getElem (show L.length - 1 < L.length by omega)]
  rw [this]
  exact e.symm
set_option maxRecDepth 100000 in
set_option maxHeartbeats 1000000 in
theorem rRuns_any (a : Option Addr) (c : Nat) (l : List Nat) (w : World) (hl : l.length ≤ 1048576) (hr : Rd w a l) (hw : W64 l) :
    Calls Tryd.prog 47 #[.slice a l.length c] w fun e w' => ∃ v, e = .returned v ∧ OwnR w.heap.size w' v (rnr (allB l)) ∧ Keep w w' := by
  have hA := rAll_any a c l w hl hr hw
  have hzl : ∀ k, k < (allB l).length → (allB l).getD k 0 < 64 * l.length := fun k h => allB_getD h
  have hzn : (allB l).length ≤ 64 * l.length := by unfold allB; exact Nat.le_trans (List.length_filter_le _ _) (by simp)
  go_enter Tryd.func47, Tryd.ntmps47
  go_wp2_with (go_at_call 38; refine hA.mono ?_; rintro e w' ⟨v, rfl, hown0, hk0⟩; clear hA; obtain ⟨av, cv, rfl, hcv, hrd⟩ := hown0.shape)
  clear hown0
  obtain ⟨z, hzz⟩ : ∃ z, allB l = z := ⟨_, rfl⟩
  have Hz : Hid (allB l = z) := hzz
  rw [hzz] at hzl hzn hcv hrd ⊢
  clear hzz
  go_loopw [3, 9] (fun v i wr => ∃ k : Nat, k ≤ z.length ∧ i = .int .i64 k ∧ OwnR w'.heap.size wr v (rnr (z.take k)) ∧ Keep w' wr) (fun _ i _ => z.length - (intOf i).toNat)
  case atStart => exact ⟨0, by omega, rfl, OwnR.nil _ _, Keep.refl _⟩
  case round =>
    obtain ⟨k, hkk, rfl, hown, hkp⟩ := hrel
    by_cases hkl : k < z.length
    · obtain ⟨b, o, rfl, hc⟩ := (hrd.keep hkp) k hkl
      have hx := hzl k hkl
      have Hs : Hid (rnr (z.take (k + 1)) = psh (rnr (z.take k)) (z.getD k 0)) := psh_snoc z k hkl
      have hbd0 := rnr_length z k hkk
      generalize rnr (z.take k) = L at *
      generalize z.getD k 0 = x at *
      by_cases h0 : 0 < L.length
      · have e := snoc_of L h0
        obtain ⟨D, hD⟩ : ∃ D, L.dropLast = D := ⟨_, rfl⟩
        obtain ⟨f, hf⟩ : ∃ f, (L.getD (L.length - 1) (0, 0)).1 = f := ⟨_, rfl⟩
        obtain ⟨t, ht⟩ : ∃ t, (L.getD (L.length - 1) (0, 0)).2 = t := ⟨_, rfl⟩
        rw [hD, hf, ht] at e
        have Hp : Hid (psh L x = if t = x then D ++ [(f, x + 1)] else L ++ [(x, x + 1)]) := by
          show _ = _
          unfold psh
          rw [hD, hf, ht]
          simp only [h0, true_and]
        clear hD hf ht h0
        have hLl : L.length = D.length + 1 := by rw [e]; simp
        have hown1 := hown
        rw [e] at hown1
        obtain ⟨g, cap, rfl, hg1, hg2, hcap, hfr, hcl, hset⟩ := hown1.last
        clear hown1
        have hlt0 : (0 : Int) < (D.length : Int) + 1 := by omega
        by_cases htx : t = x
        · subst htx
          go_wp2_with fail
          go_roundw
          case rel =>
            refine ⟨k + 1, by omega, by go_num, ?_, ?_⟩
            · rw [Hs.out, Hp.out, if_pos rfl]
              first | exact hset (t + 1) | (have q := hset (t + 1); push_cast at q; exact q)
            · first | exact hkp.mut (Mut.setCell (Mut.refl g wr) _ _) hg1 | exact hkp.mut (Mut.setCell (Mut.refl g wr) _ _).drew hg1
          case measure => simp [intOf]; omega
        · have htx2 : ((t : Int) == (x : Int)) = false := by rw [beq_eq_false_iff_ne]; omega
          have hbd : L.length < 1099511627776 := by omega
          go_wp2_with (at_builtin; refine wpList_appR2 rfl _ _ rfl L _ rfl x (x + 1) _ (by push_cast; rfl) rfl hown hkp hbd ?_; intro v' w2 hown' hk')
          obtain ⟨av', cv', rfl, hcv', -⟩ := hown'.shape
          go_roundw
          case rel => exact ⟨k + 1, by omega, by go_num, by rw [Hs.out, Hp.out, if_neg htx]; exact hown', hk'⟩
          case measure => simp [intOf]; omega
      · obtain rfl : L = [] := by cases L with | nil => rfl | cons _ _ => simp at h0
        obtain ⟨av2, cv2, rfl, hcv2, -⟩ := hown.shape
        have hbd : ([] : List (Nat × Nat)).length < 1099511627776 := by simp
        go_wp2_with (at_builtin; refine wpList_appR2 rfl _ _ rfl [] _ rfl x (x + 1) _ (by push_cast; rfl) rfl hown hkp hbd ?_; intro v' w2 hown' hk')
        obtain ⟨av', cv', rfl, hcv', -⟩ := hown'.shape
        go_roundw
        case rel => exact ⟨k + 1, by omega, by go_num, by rw [Hs.out]; exact hown', hk'⟩
        case measure => simp [intOf]; omega
    · have hke : Hid (z.take k = z) := by show _ = _; exact List.take_of_length_le (by omega)
      obtain ⟨av2, cv2, rfl, hcv2, -⟩ := hown.shape
      go_wp2_with fail
      go_ret
      refine ⟨_, rfl, ?_, hk0.trans hkp⟩
      have q := OwnR.mono hown hk0.le
      have e : rnr (allB l) = rnr (z.take k) := by rw [hke.out, Hz.out]
      rw [e]
      exact q
end Go.Proofs.YtgmnadlmejkkpaaDoor
namespace Go.Proofs.YtgmnadlmejkkpaaDoor
open Go.RowKit
theorem Gd_snoc : ∀ {L : List (Nat × Nat)} {e f t : Nat}, Gd e L → (∀ r, r ∈ L → r.2 < f) → e ≤ f → f < t → Gd e (L ++ [(f, t)])
  | [], _, _, _, _, _, h1, h2 => ⟨h1, h2, trivial⟩
  | r :: L, e, f, t, ⟨a1, a2, a3⟩, h, h1, h2 => ⟨a1, a2, Gd_snoc a3 (fun q hq => h q (by simp [hq])) (by have := h r (by simp); omega) h2⟩
theorem Gd_ext : ∀ {D : List (Nat × Nat)} {e f t t' : Nat}, Gd e (D ++ [(f, t)]) → t ≤ t' → Gd e (D ++ [(f, t')])
  | [], _, _, _, _, ⟨a1, a2, _⟩, h => ⟨a1, Nat.lt_of_lt_of_le a2 h, trivial⟩
  | _ :: _, _, _, _, _, ⟨a1, a2, a3⟩, h => ⟨a1, a2, Gd_ext a3 h⟩
theorem Gd_ends : ∀ {D : List (Nat × Nat)} {e : Nat} {q : Nat × Nat}, Gd e (D ++ [q]) → e ≤ q.1 ∧ q.1 < q.2 ∧ ∀ r, r ∈ D → r.2 < q.1
  | [], _, _, ⟨a1, a2, _⟩ => ⟨a1, a2, fun r h => by cases h⟩
  | r :: D, e, q, ⟨a1, a2, a3⟩ => by
    obtain ⟨b1, b2, b3⟩ := Gd_ends a3
    refine ⟨by omega, b2, ?_⟩
    intro x hx
    rcases List.mem_cons.1 hx with rfl | hx
    · omega
    · exact b3 x hx
theorem InR_snoc {L : List (Nat × Nat)} {q : Nat × Nat} {p : Nat} : InR (L ++ [q]) p ↔ InR L p ∨ (q.1 ≤ p ∧ p < q.2) := by
  constructor
  · rintro ⟨r, h, h4, h5⟩
    rcases List.mem_append.1 h with h | h
    · exact .inl ⟨r, h, h4, h5⟩
    · simp at h; subst h; exact .inr ⟨h4, h5⟩
  · rintro (⟨r, h, h4, h5⟩ | h)
    · exact ⟨r, by simp [h], h4, h5⟩
    · exact ⟨q, by simp, h⟩
theorem psh_good {L : List (Nat × Nat)} {x : Nat} {P : Nat → Prop} (h : Gd 0 L) (hb : ∀ p, InR L p ↔ P p) (hx : ∀ p, P p → p < x) : Gd 0 (psh L x) ∧ ∀ p, InR (psh L x) p ↔ (P p ∨ p = x) := by
  by_cases h0 : 0 < L.length
  · have e := snoc_of L h0
    obtain ⟨D, hD⟩ : ∃ D, L.dropLast = D := ⟨_, rfl⟩
    obtain ⟨f, hf⟩ : ∃ f, (L.getD (L.length - 1) (0, 0)).1 = f := ⟨_, rfl⟩
    obtain ⟨t, ht⟩ : ∃ t, (L.getD (L.length - 1) (0, 0)).2 = t := ⟨_, rfl⟩
    rw [hD, hf, ht] at e
    have Hp : psh L x = if t = x then D ++ [(f, x + 1)] else L ++ [(x, x + 1)] := by
      unfold psh
      rw [hD, hf, ht]
      simp only [h0, true_and]
    rw [Hp]
    clear hD hf ht h0 Hp
    have hg := h
    rw [e] at hg
    obtain ⟨g1, g2, g3⟩ := Gd_ends hg
    dsimp only at g1 g2 g3
    have htx : t ≤ x := by
      have := hx (t - 1) ((hb _).1 (by rw [e]; exact InR_snoc.2 (.inr ⟨by show f ≤ t - 1; omega, by show t - 1 < t; omega⟩)))
      omega
    by_cases c : t = x
    · subst c
      rw [if_pos rfl]
      refine ⟨Gd_ext hg (by omega), ?_⟩
      intro p
      rw [← hb p, e, InR_snoc, InR_snoc]
      dsimp only
      constructor
      · rintro (h | ⟨h1, h2⟩)
        · exact .inl (.inl h)
        · by_cases q : p = t
          · exact .inr q
          · exact .inl (.inr ⟨h1, by omega⟩)
      · rintro ((h | ⟨h1, h2⟩) | rfl)
        · exact .inl h
        · exact .inr ⟨h1, by omega⟩
        · exact .inr ⟨by omega, by omega⟩
    · rw [if_neg c]
      refine ⟨Gd_snoc h ?_ (by omega) (by omega), ?_⟩
      · intro r hr
        rw [e] at hr
        rcases List.mem_append.1 hr with hr | hr
        · have := g3 r hr; omega
        · simp at hr; subst hr; show t < x; omega
      · intro p
        rw [InR_snoc, hb p]
        dsimp only
        constructor
        · rintro (h | ⟨h1, h2⟩)
          · exact .inl h
          · exact .inr (by omega)
        · rintro (h | rfl)
          · exact .inl h
          · exact .inr ⟨by omega, by omega⟩
  · obtain rfl : L = [] := by cases L with | nil => rfl | cons _ _ => simp at h0
    refine ⟨⟨by omega, by show x < x + 1; omega, trivial⟩, ?_⟩
    intro p
    rw [← hb p]
    show InR ([] ++ [(x, x + 1)]) p ↔ _
    rw [InR_snoc]
    dsimp only
    constructor
    · rintro (h | ⟨h1, h2⟩)
      · exact .inl h
      · exact .inr (by omega)
    · rintro (h | rfl)
      · exact .inl h
      · exact .inr ⟨by omega, by omega⟩
theorem rnr_good {z : List Nat} (hz : z.Pairwise (· < ·)) : ∀ k, k ≤ z.length → Gd 0 (rnr (z.take k)) ∧ ∀ p, InR (rnr (z.take k)) p ↔ p ∈ z.take k
  | 0, _ => ⟨trivial, fun p => by simp [rnr, InR]⟩
  | k + 1, h => by
    obtain ⟨h1, h2⟩ := rnr_good hz k (by omega)
    rw [psh_snoc z k (by omega)]
    have e := take_snoc z k (by omega)
    have hp : (z.take (k + 1)).Pairwise (· < ·) := hz.sublist (List.take_sublist _ _)
    rw [e, List.pairwise_append] at hp
    obtain ⟨q1, q2⟩ := psh_good (x := z.getD k 0) h1 h2 (fun p hp' => hp.2.2 p hp' _ (by simp))
    refine ⟨q1, ?_⟩
    intro p
    rw [q2 p, e]
    simp
/-- The runs are one and the same. -/
theorem runs_one {l : List Nat} {L : List (Nat × Nat)} (hc : Ch L (64 * l.length)) (hv : Cov l L (64 * l.length)) (hs' : St L) : L = rnr (allB l) := by
  have hz : (allB l).Pairwise (· < ·) := List.Pairwise.filter _ List.pairwise_lt_range
  obtain ⟨h1, h2⟩ := rnr_good hz (allB l).length (Nat.le_refl _)
  rw [List.take_of_length_le (Nat.le_refl _)] at h1 h2
  refine Gd.one (Gd_of 0 hc hs' (fun _ => by omega)) h1 ?_
  intro p
  rw [h2 p, InR_of]
  have hm : p ∈ allB l ↔ p < 64 * l.length ∧ hs l p = true := by unfold allB; simp
  rw [hm]
  constructor
  · rintro ⟨j, j1, j2, j3⟩
    have := (hc j j1).2.1
    exact ⟨by omega, (hv p (by omega)).2 ⟨j, j1, j2, j3⟩⟩
  · rintro ⟨q1, q2⟩
    exact (hv p q1).1 q2
end Go.Proofs.YtgmnadlmejkkpaaDoor
namespace Go.Proofs.YtgmnadlmejkkpaaDoor
open Go.RowKit
/-- The run behind these is wrong. -/
def Bad (L : List (Nat × Nat)) (n : Nat) (f t : Int) : Prop := f < (ah L L.length : Int) ∨ t ≤ f ∨ (n : Int) < t
/-- Runs right up to L, then (f, t). -/
def RdB (w : World) (a : Option Addr) (L : List (Nat × Nat)) (f t : Int) : Prop :=
  RdR2 w a L ∧ ∃ b o, a = some ⟨b, o, none⟩ ∧ w.cell? ⟨b, o + L.length * 2, none⟩ = some (.int .i64 f) ∧ w.cell? ⟨b, o + L.length * 2 + 1, none⟩ = some (.int .i64 t)
theorem RdB.keep {w w' : World} {a : Option Addr} {L : List (Nat × Nat)} {f t : Int} (h : RdB w a L f t) (k : Keep w w') : RdB w' a L f t := by
  obtain ⟨h1, b, o, e, h2, h3⟩ := h
  exact ⟨h1.keep k, b, o, e, k.cell h2, k.cell h3⟩
set_option maxRecDepth 100000 in
set_option maxHeartbeats 1000000 in
theorem Of_bad (a : Option Addr) (c n N : Nat) (L : List (Nat × Nat)) (F T : Int) (w : World) (hn : n ≤ 1048576) (hN : N ≤ 1099511627776) (hLN : L.length < N) (hr : RdB w a L F T) (hc : Ch L n) (hbad : Bad L n F T) :
    Calls Tryd.prog 43 #[.int .i64 (n : Nat), .slice a N c] w fun e w' => e = .returned (.tuple #[.slice none 0 0, .int .i64 50]) ∧ Keep w w' := by
  have hE := Empty_ok n w hn
  obtain ⟨m, hm⟩ : ∃ m, (n + 63) / 64 = m := ⟨_, rfl⟩
  rw [hm] at hE
  have Hm : Hid ((n + 63) / 64 = m) := hm
  clear hm
  go_enter Tryd.func43, Tryd.ntmps43
  go_wp2_with (go_at_call 14; refine hE.mono ?_; rintro e w1 ⟨rfl, hr1, hk1, hs1⟩; clear hE)
  go_loopw [8, 21] (fun v i wr => ∃ (k : Nat) (rk : List Nat), k ≤ L.length ∧ v = .int .i64 (ah L k : Nat) ∧ i = .int .i64 k ∧ Row wr w.heap.size rk ∧ Hid (rk.length = m) ∧ Hid (W64 rk) ∧ Hid (∀ p, hs rk p = true ↔ ∃ j, j < k ∧ (L.getD j (0, 0)).1 ≤ p ∧ p < (L.getD j (0, 0)).2) ∧ Keep w wr) (fun _ i _ => N - (intOf i).toNat)
  case atStart => exact ⟨0, _, by omega, rfl, rfl, hr1, by show _ = _; simp, W64_rep _, by show ∀ p, _; intro p; rw [hs_rep]; simp, hk1⟩
  case round =>
    clear hr1 hk1
    obtain ⟨k, rk, hkk, rfl, rfl, hrk, hlen, hw64, hbits, hkp⟩ := hrel
    by_cases hkl : k < L.length
    · obtain ⟨b, o, rfl, c1, c2⟩ := (hr.1.keep hkp) k hkl
      obtain ⟨q1, q2, -⟩ := hc k hkl
      have q0 := ah_le hc hkl
      have Hah : Hid (ah L (k + 1) = (L.getD k (0, 0)).2) := ah_succ L k
      have hF := fun wx (h : Row wx w.heap.size rk) => fill_any w.heap.size m (L.getD k (0, 0)).1 (L.getD k (0, 0)).2 rk wx h (by rw [hlen.out]; have := Hm.out; omega) hw64.out (by rw [hlen.out]; have := Hm.out; omega)
      rw [hlen.out] at hF
      have hlow : Hid (∀ p, (∃ j, j < k + 1 ∧ (L.getD j (0, 0)).1 ≤ p ∧ p < (L.getD j (0, 0)).2) ↔ ((∃ j, j < k ∧ (L.getD j (0, 0)).1 ≤ p ∧ p < (L.getD j (0, 0)).2) ∨ ((L.getD k (0, 0)).1 ≤ p ∧ p < (L.getD k (0, 0)).2))) := by
        show ∀ p, _
        intro p
        constructor
        · rintro ⟨j, h1, h2, h3⟩
          by_cases e : j = k
          · rw [e] at h2 h3; exact .inr ⟨h2, h3⟩
          · exact .inl ⟨j, by omega, h2, h3⟩
        · rintro (⟨j, h1, h2, h3⟩ | ⟨h2, h3⟩)
          · exact ⟨j, by omega, h2, h3⟩
          · exact ⟨k, by omega, h2, h3⟩
      generalize (L.getD k (0, 0)).1 = f at *
      generalize (L.getD k (0, 0)).2 = t at *
      generalize ah L k = h at *
      have g1 : ¬ (f : Int) < (h : Int) := by omega
      have g2 : ¬ (t : Int) ≤ (f : Int) := by omega
      have g3 : ¬ (n : Int) < (t : Int) := by omega
      have hka : Keep wr (wr.alloc (Obj.cells #[Value.int IntKind.i64 f, Value.int IntKind.i64 t] 55)) := (Keep.refl wr).alloc _
      have hrow3 : (wr.alloc (Obj.cells #[Value.int IntKind.i64 f, Value.int IntKind.i64 t] 55)).heap[wr.heap.size]? = some (Obj.cells #[Value.int IntKind.i64 f, Value.int IntKind.i64 t] 55 (0, 0)) := heap_alloc_new wr _
      have hgl := hrk.lt
      go_wp2_with fail
      generalize wr.alloc _ = w2 at hka hrow3 ⊢
      refine (hF w2 (hrk.keep hka)).mono ?_
      rintro e w3 ⟨l3, rfl, hr3, hl3, hw3, hb3, hm3⟩
      have c5 : w3.cell? ⟨wr.heap.size, 1, none⟩ = some (Value.int IntKind.i64 t) := by
        have h4 : w3.heap[wr.heap.size]? = some (Obj.cells #[Value.int IntKind.i64 f, Value.int IntKind.i64 t] 55 (0, 0)) := by rw [hm3.block _ (by omega)]; exact hrow3
        rw [cell_of_row w3 _ 1 _ 55 (0, 0) h4]; rfl
      have hk3 := (hkp.trans hka).mut hm3 (Nat.le_refl _)
      have Hb3 : Hid (∀ p, hs l3 p = true ↔ ∃ j, j < k + 1 ∧ (L.getD j (0, 0)).1 ≤ p ∧ p < (L.getD j (0, 0)).2) := by
        show ∀ p, _
        intro p
        rw [hlow.out p, ← hbits.out p, hb3 p, Bool.or_eq_true, decide_eq_true_eq]
      clear hF hbits hlow hb3 hrow3
      go_wp2_with fail
      go_roundw
      case rel => exact ⟨k + 1, l3, by omega, by rw [Hah.out], by go_num, hr3, hl3, hw3, Hb3, hk3⟩
      case measure => simp [intOf]; omega
    · obtain rfl : k = L.length := by omega
      obtain ⟨-, b, o, rfl, c1, c2⟩ := hr.keep hkp
      have hbad' : F < (ah L L.length : Int) ∨ T ≤ F ∨ (n : Int) < T := hbad
      generalize ah L L.length = h at *
      by_cases d1 : F < (h : Int)
      · go_wp2_with fail
        go_ret2
        exact ⟨rfl, hkp.alloc _⟩
      · by_cases d2 : T ≤ F
        · go_wp2_with fail
          go_ret2
          exact ⟨rfl, hkp.alloc _⟩
        · have d3 : (n : Int) < T := by omega
          go_wp2_with fail
          go_ret2
          exact ⟨rfl, hkp.alloc _⟩
set_option maxHeartbeats 400000 in
theorem Of_no (n : Int) (v : Value) (w : World) (hn : n < 0 ∨ 1048576 < n) :
    Calls Tryd.prog 43 #[.int .i64 n, v] w fun e w' => e = .returned (.tuple #[.slice none 0 0, .int .i64 2]) ∧ w' = w := by
  have hE := Empty_no n w hn
  go_enter Tryd.func43, Tryd.ntmps43
  go_wp2_with (go_at_call 14; refine hE.mono ?_; rintro e w1 ⟨rfl, rfl⟩; clear hE)
  go_ret2
  exact ⟨rfl, rfl⟩
end Go.Proofs.YtgmnadlmejkkpaaDoor
namespace Go.Proofs.YtgmnadlmejkkpaaDoor
open Go.RowKit
set_option maxHeartbeats 400000 in
theorem rOf_no (n : Int) (v : Value) (w : World) (hn : n < 0 ∨ 1048576 < n) :
    Calls Tryd.prog 44 #[.int .i64 n, v] w fun e w' => e = .returned (.tuple #[.slice none 0 0, .int .i64 2]) ∧ w' = w := by
  go_enter Tryd.func44, Tryd.ntmps44
  by_cases h : n < 0
  · go_wp2_with fail
    go_ret2
    exact ⟨rfl, rfl⟩
  · have h2 : 1048576 < n := by omega
    go_wp2_with fail
    go_ret2
    exact ⟨rfl, rfl⟩
set_option maxRecDepth 100000 in
set_option maxHeartbeats 1000000 in
theorem rOf_bad (a : Option Addr) (c n N : Nat) (L : List (Nat × Nat)) (F T : Int) (w : World) (hn : n ≤ 1048576) (hN : N ≤ 1099511627776) (hLN : L.length < N) (hr : RdB w a L F T) (hc : Ch L n) (hbad : Bad L n F T) :
    Calls Tryd.prog 44 #[.int .i64 (n : Nat), .slice a N c] w fun e w' => e = .returned (.tuple #[.slice none 0 0, .int .i64 50]) ∧ Keep w w' := by
  have g1 : ¬ (n : Int) < 0 := by omega
  have g2 : ¬ (1048576 : Int) < (n : Int) := by omega
  go_enter Tryd.func44, Tryd.ntmps44
  go_wp2_with fail
  go_loopw [6, 21] (fun v i wr => ∃ k : Nat, k ≤ L.length ∧ v = .int .i64 (ah L k : Nat) ∧ i = .int .i64 k ∧ Keep w wr) (fun _ i _ => N - (intOf i).toNat)
  case atStart => exact ⟨0, by omega, rfl, rfl, Keep.refl _⟩
  case round =>
    obtain ⟨k, hkk, rfl, rfl, hkp⟩ := hrel
    by_cases hkl : k < L.length
    · obtain ⟨b, o, rfl, c1, c2⟩ := (hr.1.keep hkp) k hkl
      obtain ⟨q1, q2, -⟩ := hc k hkl
      have q0 := ah_le hc hkl
      have Hah : Hid (ah L (k + 1) = (L.getD k (0, 0)).2) := ah_succ L k
      generalize (L.getD k (0, 0)).1 = f at *
      generalize (L.getD k (0, 0)).2 = t at *
      generalize ah L k = h at *
      have g1 : ¬ (f : Int) < (h : Int) := by omega
      have g2 : ¬ (t : Int) ≤ (f : Int) := by omega
      have g3 : ¬ (n : Int) < (t : Int) := by omega
      go_wp2_with fail
      go_roundw
      case rel => exact ⟨k + 1, by omega, by rw [Hah.out], by go_num, hkp.alloc _⟩
      case measure => simp [intOf]; omega
    · obtain rfl : k = L.length := by omega
      obtain ⟨-, b, o, rfl, c1, c2⟩ := hr.keep hkp
      have hbad' : F < (ah L L.length : Int) ∨ T ≤ F ∨ (n : Int) < T := hbad
      generalize ah L L.length = h at *
      by_cases d1 : F < (h : Int)
      · go_wp2_with fail
        go_ret2
        exact ⟨rfl, hkp.alloc _⟩
      · by_cases d2 : T ≤ F
        · go_wp2_with fail
          go_ret2
          exact ⟨rfl, hkp.alloc _⟩
        · have d3 : (n : Int) < T := by omega
          go_wp2_with fail
          go_ret2
          exact ⟨rfl, hkp.alloc _⟩
set_option maxRecDepth 100000 in
set_option maxHeartbeats 1000000 in
theorem rOf_ok (a : Option Addr) (c n : Nat) (L : List (Nat × Nat)) (w : World) (hn : n ≤ 1048576) (hL : L.length ≤ 1099511627776) (hr : RdR2 w a L) (hc : Ch L n) :
    Calls Tryd.prog 44 #[.int .i64 (n : Nat), .slice a L.length c] w fun e w' => ∃ (l : List Nat) (g : Nat), e = .returned (.tuple #[.slice (some ⟨g, 0, none⟩) l.length l.length, .int .i64 0]) ∧ w.heap.size ≤ g ∧ Row w' g l ∧ l.length = (n + 63) / 64 ∧ W64 l ∧ (∀ p, hs l p = true ↔ ∃ j, j < L.length ∧ (L.getD j (0, 0)).1 ≤ p ∧ p < (L.getD j (0, 0)).2) ∧ Keep w w' := by
  have g1 : ¬ (n : Int) < 0 := by omega
  have g2 : ¬ (1048576 : Int) < (n : Int) := by omega
  obtain ⟨m, hm⟩ : ∃ m, (n + 63) / 64 = m := ⟨_, rfl⟩
  have hmi : ((n : Int) + 63) / 64 = (m : Int) := by omega
  rw [hm]
  have Hm : Hid ((n + 63) / 64 = m) := hm
  have hmb : m ≤ 16384 := by omega
  go_enter Tryd.func44, Tryd.ntmps44
  go_wp2_with fail
  go_loopw [6, 21] (fun v i wr => ∃ k : Nat, k ≤ L.length ∧ v = .int .i64 (ah L k : Nat) ∧ i = .int .i64 k ∧ Keep w wr) (fun _ i _ => L.length - (intOf i).toNat)
  case atStart => exact ⟨0, by omega, rfl, rfl, Keep.refl _⟩
  case round =>
    obtain ⟨k, hkk, rfl, rfl, hkp⟩ := hrel
    by_cases hkl : k < L.length
    · obtain ⟨b, o, rfl, c1, c2⟩ := (hr.keep hkp) k hkl
      obtain ⟨q1, q2, -⟩ := hc k hkl
      have q0 := ah_le hc hkl
      have Hah : Hid (ah L (k + 1) = (L.getD k (0, 0)).2) := ah_succ L k
      generalize (L.getD k (0, 0)).1 = f at *
      generalize (L.getD k (0, 0)).2 = t at *
      generalize ah L k = h at *
      have g1 : ¬ (f : Int) < (h : Int) := by omega
      have g2 : ¬ (t : Int) ≤ (f : Int) := by omega
      have g3 : ¬ (n : Int) < (t : Int) := by omega
      go_wp2_with fail
      go_roundw
      case rel => exact ⟨k + 1, by omega, by rw [Hah.out], by go_num, hkp.alloc _⟩
      case measure => simp [intOf]; omega
    · have hke : Hid (k = L.length) := by show _ = _; omega
      go_wp2_with (at_make; refine wpList_make64 _ rfl _ _ rfl _ _ _ _ m rfl rfl (by first | rfl | exact hmi) (by first | rfl | exact hmi) (by omega) ?_; intro w1 hrow hk hsz)
      have hkw : Keep w w1 := hkp.trans hk
      have hGw : w.heap.size ≤ wr.heap.size := hkp.le
      clear hk hkp
      generalize wr.heap.size = G at *
      go_loopw [51] (fun i wx => ∃ (q : Nat) (rk : List Nat), q ≤ L.length ∧ i = .int .i64 q ∧ Row wx G rk ∧ Hid (rk.length = m) ∧ Hid (W64 rk) ∧ Hid (∀ p, hs rk p = true ↔ ∃ j, j < q ∧ (L.getD j (0, 0)).1 ≤ p ∧ p < (L.getD j (0, 0)).2) ∧ Keep w wx) (fun i _ => L.length - (intOf i).toNat)
      case atStart => exact ⟨0, _, by omega, rfl, hrow, by show _ = _; simp, W64_rep _, by show ∀ p, _; intro p; rw [hs_rep]; simp, hkw⟩
      case round =>
        obtain ⟨q, rk, hqk, rfl, hrk, hlen, hw64, hbits, hkx⟩ := hrel
        by_cases hql : q < L.length
        · obtain ⟨b, o, rfl, c1, c2⟩ := (hr.keep hkx) q hql
          obtain ⟨q1, q2, -⟩ := hc q hql
          have hlow : Hid (∀ p, (∃ j, j < q + 1 ∧ (L.getD j (0, 0)).1 ≤ p ∧ p < (L.getD j (0, 0)).2) ↔ ((∃ j, j < q ∧ (L.getD j (0, 0)).1 ≤ p ∧ p < (L.getD j (0, 0)).2) ∨ ((L.getD q (0, 0)).1 ≤ p ∧ p < (L.getD q (0, 0)).2))) := by
            show ∀ p, _
            intro p
            constructor
            · rintro ⟨j, h1, h2, h3⟩
              by_cases e : j = q
              · rw [e] at h2 h3; exact .inr ⟨h2, h3⟩
              · exact .inl ⟨j, by omega, h2, h3⟩
            · rintro (⟨j, h1, h2, h3⟩ | ⟨h2, h3⟩)
              · exact ⟨j, by omega, h2, h3⟩
              · exact ⟨q, by omega, h2, h3⟩
          generalize (L.getD q (0, 0)).1 = f at *
          generalize (L.getD q (0, 0)).2 = t at *
          have hka : Keep wr (wr.alloc (Obj.cells #[Value.int IntKind.i64 f, Value.int IntKind.i64 t] 55)) := (Keep.refl wr).alloc _
          have hrow3 : (wr.alloc (Obj.cells #[Value.int IntKind.i64 f, Value.int IntKind.i64 t] 55)).heap[wr.heap.size]? = some (Obj.cells #[Value.int IntKind.i64 f, Value.int IntKind.i64 t] 55 (0, 0)) := heap_alloc_new wr _
          have hgl := hrk.lt
          go_wp2_with fail
          generalize wr.alloc _ = w2 at hka hrow3 ⊢
          have hr2 := hrk.keep hka
          have hk2 := hkx.trans hka
          have hXG : wr.heap.size ≠ G := by omega
          clear hka hrk hkx hgl c1 c2
          generalize wr.heap.size = X at *
          go_loopw [12] (fun i wy => ∃ (p : Nat) (rj : List Nat), p ≤ t ∧ i = .int .i64 p ∧ Hid (f ≤ p) ∧ Row wy G rj ∧ Hid (rj.length = m) ∧ Hid (W64 rj) ∧ Hid (∀ j, hs rj j = (hs rk j || decide (f ≤ j ∧ j < p))) ∧ Mut G w2 wy) (fun i _ => t - (intOf i).toNat)
          case atStart => exact ⟨f, rk, by omega, rfl, Nat.le_refl _, hr2, hlen, hw64, by show ∀ j, _; intro j; rw [decide_eq_false (by omega), Bool.or_false], Mut.refl _ _⟩
          case round =>
            obtain ⟨p, rj, hpt, rfl, hfp, hrj, hlenj, hwj, hbj, hmj⟩ := hrel
            have hrow4 : wr.heap[X]? = some (Obj.cells #[Value.int IntKind.i64 f, Value.int IntKind.i64 t] 55 (0, 0)) := by rw [hmj.block _ hXG]; exact hrow3
            have c5 : wr.cell? ⟨X, 1, none⟩ = some (Value.int IntKind.i64 t) := by rw [cell_of_row wr _ 1 _ 55 (0, 0) hrow4]; rfl
            by_cases hpl : p < t
            · obtain ⟨qq, hq⟩ : ∃ q, p / 64 = q := ⟨_, rfl⟩
              obtain ⟨r, hrr⟩ : ∃ r, p % 64 = r := ⟨_, rfl⟩
              have hqi : (p : Int) / 64 = (qq : Int) := by omega
              have hri : (p : Int) % 64 = (r : Int) := by omega
              have hqm : qq < m := by have := Hm.out; omega
              have hr64 : r < 64 := by omega
              have hcl := hrj.cell qq (by rw [hlenj.out]; omega)
              have hfz := hrj.frozen qq
              have hxl := W64_getD hwj.out qq
              have Hnew : Hid (∀ j, hs (rj.set qq (rj.getD qq 0 ||| 2 ^ r)) j = (hs rk j || decide (f ≤ j ∧ j < p + 1))) := by
                show ∀ j, _
                intro j
                have := hs_bit (l := rj) (i := p) (by rw [hq, hlenj.out]; exact hqm) j
                rw [hq, hrr] at this
                rw [this, hbj.out, Bool.or_assoc, ← Bool.decide_or]
                congr 1
                rw [decide_eq_decide]
                have := hfp.out
                omega
              have htm : (p : Int).tmod 64 = (r : Int) := by rw [Int.tmod_eq_emod_of_nonneg (by omega)]; exact hri
              have Hor := orbit hxl hr64
              have hwl := or_lt hxl (bit_lt hr64)
              clear hq hrr hrow4 hrow3
              generalize rj.getD qq 0 = x at *
              go_wp2_with fail
              go_roundw
              case rel => exact ⟨p + 1, rj.set qq (x ||| 2 ^ r), by omega, by go_num, by have := hfp.out; show _ ≤ _; omega, hrj.set qq _, by show _ = _; rw [List.length_set]; exact hlenj.out, W64_set hwj.out qq hwl, Hnew, by first | exact hmj.setCell qq _ | exact (hmj.setCell qq _).drew⟩
              case measure => simp [intOf]; omega
            · have hpe : Hid (p = t) := by show _ = _; omega
              go_wp2_with fail
              go_roundw
              case rel =>
                refine ⟨q + 1, rj, by omega, by go_num, hrj, hlenj, hwj, ?_, hk2.mut hmj hGw⟩
                show ∀ p, _
                intro y
                rw [hlow.out y, ← hbits.out y, hbj.out y, Bool.or_eq_true, decide_eq_true_eq, hpe.out]
              case measure => simp [intOf]; omega
        · have hqe : Hid (q = L.length) := by show _ = _; omega
          go_wp2_with fail
          go_ret2
          refine ⟨rk, G, by rw [hlen.out]; rfl, hGw, hrk, hlen.out, hw64.out, ?_, hkx⟩
          intro p
          rw [← hqe.out]
          exact hbits.out p
end Go.Proofs.YtgmnadlmejkkpaaDoor
namespace Go.Proofs.YtgmnadlmejkkpaaDoor
open Go.RowKit
set_option maxRecDepth 100000 in
set_option maxHeartbeats 1000000 in
theorem runs_same (a b : Option Addr) (ca cb : Nat) (L : List (Nat × Nat)) (w : World) (hL : L.length ≤ 1099511627776) (ha : RdR2 w a L) (hb : RdR2 w b L) :
    Calls Tryd.prog 45 #[.slice a L.length ca, .slice b L.length cb] w fun e w' => e = .returned (.bool true) ∧ Keep w w' := by
  go_enter Tryd.func45, Tryd.ntmps45
  go_wp2_with fail
  go_loopw [13] (fun i wr => ∃ k : Nat, k ≤ L.length ∧ i = .int .i64 k ∧ Keep w wr) (fun i _ => L.length - (intOf i).toNat)
  case atStart => exact ⟨0, by omega, rfl, Keep.refl _⟩
  case round =>
    obtain ⟨k, hkk, rfl, hkp⟩ := hrel
    by_cases hkl : k < L.length
    · obtain ⟨b1, o1, rfl, c1, c2⟩ := (ha.keep hkp) k hkl
      obtain ⟨b2, o2, rfl, c3, c4⟩ := (hb.keep hkp) k hkl
      generalize (L.getD k (0, 0)).1 = f at *
      generalize (L.getD k (0, 0)).2 = t at *
      go_wp2_with fail
      go_region_with fail
      all_goals go_simp
      all_goals go_wp2_with fail
      all_goals
        go_roundw
        case rel => exact ⟨k + 1, by omega, by go_num, by first | exact hkp | exact hkp.drew | exact hkp.drewN _⟩
        case measure => simp [intOf]; omega
    · go_wp2_with fail
      go_ret
      exact ⟨rfl, hkp⟩
/-- Runs of any whole numbers, read. -/
def RdI2 (w : World) (a : Option Addr) (N : Nat) (V0 V1 : Nat → Int) : Prop :=
  ∀ j, j < N → ∃ b o, a = some ⟨b, o, none⟩ ∧ w.cell? ⟨b, o + j * 2, none⟩ = some (.int .i64 (V0 j)) ∧ w.cell? ⟨b, o + j * 2 + 1, none⟩ = some (.int .i64 (V1 j))
theorem Ch.up {L : List (Nat × Nat)} {e n : Nat} (h : Ch L e) (hn : e ≤ n) : Ch L n := fun j hj => ⟨(h j hj).1, by have := (h j hj).2.1; omega, (h j hj).2.2⟩
theorem runs_split (n : Nat) (V0 V1 : Nat → Int) : ∀ k, (∃ L : List (Nat × Nat), L.length = k ∧ (∀ j, j < k → V0 j = ((L.getD j (0, 0)).1 : Nat) ∧ V1 j = ((L.getD j (0, 0)).2 : Nat)) ∧ Ch L (ah L L.length) ∧ ah L L.length ≤ n) ∨
    (∃ L : List (Nat × Nat), L.length < k ∧ (∀ j, j < L.length → V0 j = ((L.getD j (0, 0)).1 : Nat) ∧ V1 j = ((L.getD j (0, 0)).2 : Nat)) ∧ Ch L n ∧ Bad L n (V0 L.length) (V1 L.length))
  | 0 => .inl ⟨[], rfl, fun j h => by omega, fun j h => by simp at h, by simp [ah]⟩
  | k + 1 => by
    rcases runs_split n V0 V1 k with ⟨L, h1, h2, h3, h4⟩ | ⟨L, h1, h2⟩
    · by_cases hb : Bad L n (V0 L.length) (V1 L.length)
      · exact .inr ⟨L, by omega, fun j hj => h2 j (by omega), h3.up h4, hb⟩
      · left
        unfold Bad at hb
        obtain ⟨f, hf⟩ : ∃ f : Nat, V0 L.length = (f : Int) := ⟨(V0 L.length).toNat, by omega⟩
        obtain ⟨t, ht⟩ : ∃ t : Nat, V1 L.length = (t : Int) := ⟨(V1 L.length).toNat, by omega⟩
        rw [hf, ht] at hb
        have hl : (L ++ [(f, t)]).length = L.length + 1 := by simp
        have ha : ah (L ++ [(f, t)]) (L ++ [(f, t)]).length = t := by rw [hl, ah_succ, getD_snoc, if_pos rfl]
        refine ⟨L ++ [(f, t)], by rw [hl, h1], ?_, ?_, ?_⟩
        · intro j hj
          rw [getD_snoc]
          by_cases e : j = L.length
          · rw [if_pos e, e]; exact ⟨hf, ht⟩
          · rw [if_neg e]; exact h2 j (by omega)
        · rw [ha]; exact h3.snoc (by omega) (by omega)
        · rw [ha]; omega
    · exact .inr ⟨L, by omega, h2⟩
theorem RdI2.good {w : World} {a : Option Addr} {N : Nat} {V0 V1 : Nat → Int} {L : List (Nat × Nat)} (h : RdI2 w a N V0 V1) (hl : L.length ≤ N) (h2 : ∀ j, j < L.length → V0 j = ((L.getD j (0, 0)).1 : Nat) ∧ V1 j = ((L.getD j (0, 0)).2 : Nat)) : RdR2 w a L := by
  intro j hj
  obtain ⟨b, o, e, c1, c2⟩ := h j (by omega)
  obtain ⟨e1, e2⟩ := h2 j hj
  rw [e1] at c1
  rw [e2] at c2
  exact ⟨b, o, e, c1, c2⟩
end Go.Proofs.YtgmnadlmejkkpaaDoor
namespace Go.Proofs.YtgmnadlmejkkpaaDoor
open Go.RowKit
theorem Row.all {w : World} {g : Nat} {l : List Nat} (h : Row w g l) : Rd w (some ⟨g, 0, none⟩) l := by
  have := h.rd 0 l.length (by omega)
  simpa using this
/-- Of and its twin answer alike. -/
theorem ofs_one (a : Option Addr) (c N : Nat) (n : Int) (V0 V1 : Nat → Int) (w : World) (hN : N ≤ 1099511627776) (hr : RdI2 w a N V0 V1) :
    ∃ (P : List Nat → Prop) (E : Int), (∀ l m, P l → P m → l = m) ∧ (∀ l, P l → l.length ≤ 16384) ∧
      (∀ wx, Keep w wx → Calls Tryd.prog 43 #[.int .i64 n, .slice a N c] wx fun e w' => ∃ l a' c', e = .returned (.tuple #[.slice a' (List.length l) c', .int .i64 E]) ∧ P l ∧ Rd w' a' l ∧ Keep wx w') ∧
      (∀ wx, Keep w wx → Calls Tryd.prog 44 #[.int .i64 n, .slice a N c] wx fun e w' => ∃ l a' c', e = .returned (.tuple #[.slice a' (List.length l) c', .int .i64 E]) ∧ P l ∧ Rd w' a' l ∧ Keep wx w') := by
  by_cases hn : n < 0 ∨ 1048576 < n
  · refine ⟨fun l => l = [], 2, fun l m h1 h2 => by rw [h1, h2], fun l h => by rw [h]; simp, ?_, ?_⟩
    · intro wx _
      refine (Of_no n _ wx hn).mono ?_
      rintro e w' ⟨rfl, rfl⟩
      exact ⟨[], none, 0, rfl, rfl, Rd.nil _ _, Keep.refl _⟩
    · intro wx _
      refine (rOf_no n _ wx hn).mono ?_
      rintro e w' ⟨rfl, rfl⟩
      exact ⟨[], none, 0, rfl, rfl, Rd.nil _ _, Keep.refl _⟩
  · obtain ⟨n, rfl⟩ : ∃ k : Nat, n = (k : Int) := ⟨n.toNat, by omega⟩
    have hn' : n ≤ 1048576 := by omega
    rcases runs_split n V0 V1 N with ⟨L, h1, h2, h3, h4⟩ | ⟨L, h1, h2, h3, h4⟩
    · subst h1
      have hg := hr.good (Nat.le_refl _) h2
      have hc := h3.up h4
      refine ⟨fun l => l.length = (n + 63) / 64 ∧ W64 l ∧ ∀ p, hs l p = true ↔ ∃ j, j < L.length ∧ (L.getD j (0, 0)).1 ≤ p ∧ p < (L.getD j (0, 0)).2, 0, ?_, ?_, ?_, ?_⟩
      · rintro l m ⟨a1, a2, a3⟩ ⟨b1, b2, b3⟩
        refine hs_ext (by rw [a1, b1]) a2 b2 ?_
        intro i _
        rw [Bool.eq_iff_iff, a3 i, b3 i]
      · rintro l ⟨a1, _⟩
        rw [a1]; omega
      · intro wx k
        refine (Of_ok a c n L wx hn' hN (hg.keep k) hc).mono ?_
        rintro e w' ⟨l, rfl, r1, r2, r3, r4, r5⟩
        exact ⟨l, _, _, rfl, ⟨r2, r3, r4⟩, r1.all, r5⟩
      · intro wx k
        refine (rOf_ok a c n L wx hn' hN (hg.keep k) hc).mono ?_
        rintro e w' ⟨l, g, rfl, _, r1, r2, r3, r4, r5⟩
        exact ⟨l, _, _, rfl, ⟨r2, r3, r4⟩, r1.all, r5⟩
    · have hg := hr.good (by omega) h2
      have hB : RdB w a L (V0 L.length) (V1 L.length) := ⟨hg, hr _ h1⟩
      refine ⟨fun l => l = [], 50, fun l m h1 h2 => by rw [h1, h2], fun l h => by rw [h]; simp, ?_, ?_⟩
      · intro wx k
        refine (Of_bad a c n N L _ _ wx hn' hN h1 (hB.keep k) h3 h4).mono ?_
        rintro e w' ⟨rfl, k2⟩
        exact ⟨[], none, 0, rfl, rfl, Rd.nil _ _, k2⟩
      · intro wx k
        refine (rOf_bad a c n N L _ _ wx hn' hN h1 (hB.keep k) h3 h4).mono ?_
        rintro e w' ⟨rfl, k2⟩
        exact ⟨[], none, 0, rfl, rfl, Rd.nil _ _, k2⟩
set_option maxRecDepth 100000 in
set_option maxHeartbeats 1000000 in
theorem law_runs (a b : Option Addr) (ca cb N : Nat) (l : List Nat) (n : Int) (V0 V1 : Nat → Int) (w : World) (hl : l.length ≤ 1048576) (hN : N ≤ 1099511627776) (ha : Rd w a l) (hw : W64 l) (hb : RdI2 w b N V0 V1) (hT : Tab w) :
    Calls Tryd.prog 6 #[.slice a l.length ca, .int .i64 n, .slice b N cb] w fun e w' => e = .returned (.bool true) ∧ Keep w w' := by
  obtain ⟨P, E, hP, hPl, O1, O2⟩ := ofs_one b cb N n V0 V1 w hN hb
  have hR1 := fun wx (h : Keep w wx) => Runs_st a ca l wx hl (ha.keep h) hw (hT.keep h)
  have hR2 := fun wx (h : Keep w wx) => rRuns_any a ca l wx hl (ha.keep h) hw
  go_enter Tryd.func6, Tryd.ntmps6
  go_wp2_with fail
  refine (O1 w (Keep.refl _)).mono ?_
  rintro e w1 ⟨x, a1, c1, rfl, p1, r1, k1⟩
  go_wp2_with fail
  refine (O2 w1 k1).mono ?_
  rintro e w2 ⟨y, a2, c2, rfl, p2, r2, k2⟩
  obtain rfl := hP x y p1 p2
  have hxl := hPl x p1
  have t2 := k1.trans k2
  have hLv := lives_any w2 (hT.keep t2)
  clear O1 O2 hP hPl p1 p2
  go_wp2_with fail
  refine hLv.mono ?_
  rintro e w3 ⟨rfl, k3⟩
  have t3 := t2.trans k3
  go_wp2_with fail
  refine (hR1 w3 t3).mono ?_
  rintro e w4 ⟨v4, L, rfl, o4, hlen4, ch4, cv4, st4, k4⟩
  have eL : Hid (L = rnr (allB l)) := runs_one ch4 cv4 st4
  clear ch4 cv4 st4
  have t4 := t3.trans k4
  obtain ⟨a4, c4, rfl, -, rd4⟩ := o4.shape
  go_wp2_with fail
  refine (hR2 w4 t4).mono ?_
  rintro e w5 ⟨v5, rfl, o5, k5⟩
  rw [← eL.out] at o5
  obtain ⟨a5, c5, rfl, -, rd5⟩ := o5.shape
  have t5 := t4.trans k5
  have hC := runs_same a4 a5 c4 c5 L w5 (by omega) (rd4.keep k5) rd5
  clear eL hR1 hR2
  go_wp2_with fail
  refine hC.mono ?_
  rintro e w6 ⟨rfl, k6⟩
  have t6 := t5.trans k6
  have hS := Same_any a1 a2 c1 c2 x w6 (by omega) (r1.keep (k2.trans (k3.trans (k4.trans (k5.trans k6))))) (r2.keep (k3.trans (k4.trans (k5.trans k6))))
  go_wp2_with fail
  refine hS.mono ?_
  rintro e w7 ⟨rfl, k7⟩
  go_wp2_with fail
  go_ret
  exact ⟨rfl, t6.trans k7⟩
end Go.Proofs.YtgmnadlmejkkpaaDoor
