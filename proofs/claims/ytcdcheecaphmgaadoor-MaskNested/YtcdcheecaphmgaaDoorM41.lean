import Derived.Test.YtcdcheecaphmgaaDoorM33
import Derived.Test.YtcdcheecaphmgaaDoorM38
import Derived.Test.YtcdcheecaphmgaaDoorM20
set_option linter.unusedVariables false
set_option linter.unusedSimpArgs false
namespace Go.Proofs.YtcdcheecaphmgaaDoor
/-- Two marks' intervals are apart, or one holds the other. -/
theorem BT.nest (b : BT) : ∀ a, ∀ x ∈ b.mks a, ∀ y ∈ b.mks a, ¬ (x.2.1 < y.2.1 ∧ y.2.1 < x.2.2 ∧ x.2.2 < y.2.2) := by
  induction b with
  | leaf i => intro a x hx; simp [BT.mks] at hx
  | node i l r hl hr =>
    intro a x hx y hy
    simp only [BT.mks, List.mem_cons, List.mem_append] at hx hy
    rcases hx with rfl | hx | hx
    · rcases hy with rfl | hy | hy
      · simp only; omega
      · have := l.mks_in a y hy; simp only; omega
      · have := r.mks_in _ y hy; simp only; omega
    · have h1 := l.mks_in a x hx
      rcases hy with rfl | hy | hy
      · simp only; omega
      · exact hl a x hx y hy
      · have := r.mks_in _ y hy; omega
    · have h1 := r.mks_in _ x hx
      rcases hy with rfl | hy | hy
      · simp only; omega
      · have := l.mks_in a y hy; omega
      · exact hr _ x hx y hy
end Go.Proofs.YtcdcheecaphmgaaDoor
set_option linter.unusedVariables false
set_option linter.unusedSimpArgs false
namespace Go.Proofs.YtcdcheecaphmgaaDoor
open Go.RowKit Go.Shelf
theorem badF_all {L : List Nd} (h : ∀ i, i < L.length → rightB (L.getD i nd0) L.length = true) : ∀ (f k : Nat), k + f ≤ L.length → badF L f k = none
  | 0, k, _ => rfl
  | f + 1, k, hk => by
    rw [badF, if_pos (h k (by omega))]
    exact badF_all h f (k + 1) (by omega)
theorem misF_all {L : List Nd} (h : Tr (shp L) L.length) : ∀ (f k : Nat), 0 < k → k + f ≤ L.length → misF L f k = 0
  | 0, k, _, _ => rfl
  | f + 1, k, h0, hk => by
    have : misB L k = false := by
      unfold misB
      rw [h.one k h0 (by omega)]
      simp [ord_all h (show k < L.length by omega)]
    rw [misF, this]
    exact misF_all h f (k + 1) (by omega) (by omega)
theorem shE_of {L : List Nd} (hR : Rgt L) (hT : Tr (shp L) L.length) : shE L = 0 := by
  have h0 := hR.1
  unfold shE
  rw [if_neg (by omega), badF_all hR.2 _ _ (by omega)]
  show (if misF L (L.length - 1) 1 = 0 then (0 : Int) else 70) = 0
  rw [if_pos (misF_all hT _ _ (by omega) (by omega))]
theorem Bt.mks_sub {t : Sh} {b : BT} {i : Nat} (h : Bt t b i) : ∀ a, ∀ x ∈ b.mks a, ∃ l, Bt t l (t.A x.1) ∧ t.K x.1 = true ∧ x.2.2 = x.2.1 + l.nl ∧ x.2.2 < a + b.nl ∧ t.A x.1 ∈ b.pre ∧ x.1 ∈ b.pre ∧ a ≤ x.2.1 := by
  induction h with
  | leaf h => intro a x hx; simp [BT.mks] at hx
  | @node i l r h hl hr ih1 ih2 =>
    intro a x hx
    simp only [BT.mks, List.mem_cons, List.mem_append] at hx
    have hlp := l.nl_pos
    have hrp := r.nl_pos
    rcases hx with rfl | hx | hx
    · exact ⟨l, hl, h, rfl, by simp only [BT.nl]; omega, by simp only [BT.pre, List.mem_cons, List.mem_append]; exact .inr (.inl hl.topM), by simp [BT.pre], Nat.le_refl _⟩
    · obtain ⟨c, h1, h2, h3, h4, h5, h6, h7⟩ := ih1 a x hx
      exact ⟨c, h1, h2, h3, by simp only [BT.nl]; omega, by simp only [BT.pre, List.mem_cons, List.mem_append]; exact .inr (.inl h5), by simp only [BT.pre, List.mem_cons, List.mem_append]; exact .inr (.inl h6), h7⟩
    · obtain ⟨c, h1, h2, h3, h4, h5, h6, h7⟩ := ih2 (a + l.nl) x hx
      exact ⟨c, h1, h2, h3, by simp only [BT.nl]; omega, by simp only [BT.pre, List.mem_cons, List.mem_append]; exact .inr (.inr h5), by simp only [BT.pre, List.mem_cons, List.mem_append]; exact .inr (.inr h6), by omega⟩
/-- The nodes below one, numbered anew, are a tree with as many leaves. -/
theorem un_lvs {L : List Nd} (hR : Rgt L) {c : BT} {r : Nat} {l : List Nat} {f : Nat → Nat} (h : Bt (shp L) c r) (hin : ∀ k ∈ c.pre, k < L.length) (hp : l.Perm c.pre) (hf : Plc l f) (h0 : f r = 0) : shE (unL L l f) = 0 ∧ (lvs (unL L l f)).length = c.nl := by
  obtain ⟨h1, h2, h3, h4⟩ := under_ok hR h hin hp hf h0
  rw [← unL_len L l f] at h2
  have hE := shE_of h1 h2
  refine ⟨hE, ?_⟩
  have e : lvs (unL L l f) = (c.ren f).lv := by
    unfold lvs
    rw [if_pos hE, ord_bt h2 h3, ← h3.pre_lv]
    rfl
  rw [e, BT.lv_len, h4]
end Go.Proofs.YtcdcheecaphmgaaDoor
set_option linter.unusedVariables false
set_option linter.unusedSimpArgs false
namespace Go.Proofs.YtcdcheecaphmgaaDoor
open Go.RowKit Go.Shelf
theorem cell_same {w : World} {B : Nat} {v : Value} {b q : Nat} (h : b ≠ B) : (w.setCell ⟨B, 1, none⟩ v).cell? ⟨b, q, none⟩ = w.cell? ⟨b, q, none⟩ := by
  have := neq_setM w B 1 v b h
  rw [World.cell?_of_block (a := ⟨b, q, none⟩) this]
theorem RdI.setBox {w : World} {B : Nat} {n0 : Int} {sv v : Value} (hs : ∀ k n, sv ≠ .int k n) (hb : w.heap[B]? = some (Obj.cells #[.int .i64 n0, sv] 24 (0, 0))) {a : Option Addr} {l : List Int} (h : RdI w a l) : RdI (w.setCell ⟨B, 1, none⟩ v) a l := by
  intro j hj
  obtain ⟨b, o, e, hc⟩ := h j hj
  refine ⟨b, o, e, ?_⟩
  by_cases hB : b = B
  · subst hB
    rw [cell_of_row w b _ _ 24 (0, 0) hb] at hc
    have a1 := heap_setCell_same w b 1 _ 24 v hb
    rw [cell_of_row _ b _ _ 24 (0, 0) a1]
    generalize o + j = q at *
    match q, hc with
    | 0, hc => simpa using hc
    | 1, hc => simp at hc; exact absurd hc (hs _ _)
    | q + 2, hc => simp at hc
  · rw [cell_same hB]; exact hc
theorem RdN.setBox {w : World} {B : Nat} {n0 : Int} {sv v : Value} (hs : ∀ k n, sv ≠ .int k n) (hb : w.heap[B]? = some (Obj.cells #[.int .i64 n0, sv] 24 (0, 0))) {a : Option Addr} {L : List Nd} (h : RdN w a L) : RdN (w.setCell ⟨B, 1, none⟩ v) a L := by
  intro j hj
  obtain ⟨b, o, ca, cp, e, hn⟩ := h j hj
  have hB : b ≠ B := by
    intro hB
    subst hB
    have c2 := hn.c2
    rw [cell_of_row w b _ _ 24 (0, 0) hb] at c2
    simp at c2
  refine ⟨b, o, ca, cp, e, ?_⟩
  exact ⟨by rw [cell_same hB]; exact hn.c0, by rw [cell_same hB]; exact hn.c1, by rw [cell_same hB]; exact hn.c2, by rw [cell_same hB]; exact hn.c3, by rw [cell_same hB]; exact hn.c4, by rw [cell_same hB]; exact hn.c5, by rw [cell_same hB]; exact hn.c6, by rw [cell_same hB]; exact hn.c7, hn.rd.setBox hs hb, hn.cp, hn.sz, hn.ok⟩
end Go.Proofs.YtcdcheecaphmgaaDoor
