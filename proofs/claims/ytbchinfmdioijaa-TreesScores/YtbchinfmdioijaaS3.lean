import Derived.Test.YtbchinfmdioijaaS1
set_option linter.unusedVariables false
set_option linter.unusedSimpArgs false
namespace Go.Proofs.Ytbchinfmdioijaa
open Go.RowKit Go.Shelf
attribute [local go_sem] run_store_float
/-- append(nil, l...), whether l is nil or not. -/
theorem wpList_copyAny {w : World} {ops : Array Oper} {rest : List Oper} {o : Oper} {a : Act} {Q : Exit → Act → World → Prop} (hgd : o.guard = none) (s x : Operand)
    (ho : o.op = .call { callee := .builtin .append, args := #[s, x], argTypes := #[29, 29] }) (l : List Int) (ad : Option Addr) (c : Nat) (hs : a.eval s = .slice none 0 0)
    (hx : a.eval x = .slice ad l.length c) (hr : RdI w ad l) (hlen : l.length ≤ 17592186044416)
    (hK : ∀ v w1, OwnZ 3 w.heap.size w1 v l → Keep w w1 → wpList Try.prog ops Q rest (a.put o.dst v) w1) :
    wpList Try.prog ops Q (o :: rest) a w := by
  rcases ad with _ | ad
  · obtain rfl : l = [] := by
      by_cases h : l = []
      · exact h
      · obtain ⟨b, o, e, -⟩ := hr 0 (List.length_pos_iff.2 h); cases e
    refine wpList_plain hgd fun K hK' => ?_
    have hrun : (Builtin.append_ #[29, 29] o.type #[.slice none 0 0, .slice none 0 c]).run Try.prog w = .ok (.slice none 0 0) w := by
      go_simp
    unfold Oper.wp
    simp [execOp, ho, resolve, invoke, builtin, hs, hx, hrun, Result.andThen]
    exact hK' _ _ (hK _ w (OwnZ.nil _ _ _) (Keep.refl w))
  · exact wpList_copyN hgd s x ho l ad c hs hx hr hlen hK
/-- Nodes as cells. -/
def UN : List (Nd × Option Addr × Nat) → List Value
  | [] => []
  | r :: L => .int .u8 r.1.kd :: .int .i64 r.1.vl :: .int .i64 r.1.ft :: .float .f64 r.1.th :: .slice r.2.1 r.1.cs.length r.2.2 :: .int .u8 r.1.ms :: .int .i64 r.1.lf :: .int .i64 r.1.rt :: UN L
theorem UN_append : ∀ L M, UN (L ++ M) = UN L ++ UN M
  | [], _ => rfl
  | r :: L, M => by simp [UN, UN_append L M]
theorem UN_length : ∀ L, (UN L).length = L.length * 8
  | [] => rfl
  | r :: L => by simp [UN, UN_length L]; omega
theorem UN_one : ∀ L, ∀ u ∈ UN L, u.oneCell' = true
  | [], u, h => by simp [UN] at h
  | r :: L, u, h => by
    simp only [UN, List.mem_cons] at h
    rcases h with rfl | rfl | rfl | rfl | rfl | rfl | rfl | rfl | h
    all_goals first | rfl | exact UN_one L u h
abbrev nt0 : Nd × Option Addr × Nat := (nd0, none, 0)
theorem UN_get : ∀ (K : List (Nd × Option Addr × Nat)) (j i : Nat), j < K.length → i < 8 → (UN K)[j * 8 + i]? = (UN [K.getD j nt0])[i]?
  | [], j, i, h, _ => by simp at h
  | r :: K, 0, i, _, hi => by
    simp only [Nat.zero_mul, Nat.zero_add, List.getD_cons_zero]
    match i, hi with
    | 0, _ => rfl
    | 1, _ => rfl
    | 2, _ => rfl
    | 3, _ => rfl
    | 4, _ => rfl
    | 5, _ => rfl
    | 6, _ => rfl
    | 7, _ => rfl
  | r :: K, j + 1, i, h, hi => by
    have := UN_get K j i (by simpa using h) hi
    rw [show (j + 1) * 8 + i = (j * 8 + i) + 1 + 1 + 1 + 1 + 1 + 1 + 1 + 1 by omega]
    simp only [UN, List.getElem?_cons_succ, List.getD_cons_succ]
    exact this
def OwnN (B : Nat) (w : World) (v : Value) (K : List (Nd × Option Addr × Nat)) : Prop := w.ownsRow B 40 8 v K.length (UN K)
theorem OwnN.nil (B : Nat) (w : World) : OwnN B w (.slice none 0 0) [] := ⟨rfl, .inl ⟨rfl, rfl⟩⟩
theorem OwnN.same {B : Nat} {w w' : World} {v : Value} {K : List (Nd × Option Addr × Nat)} (h : OwnN B w v K) (k : ∀ b, v.ownBlock = some b → w'.heap[b]? = w.heap[b]?) : OwnN B w' v K := by
  refine ⟨h.1, ?_⟩
  rcases h.2 with h2 | ⟨g, cap, cur, hv, hg, hh, r⟩
  · exact .inl h2
  · exact .inr ⟨g, cap, cur, hv, hg, by rw [k g (by rw [hv]; rfl)]; exact hh, r⟩
theorem OwnN.block {B : Nat} {w : World} {v : Value} {K : List (Nd × Option Addr × Nat)} (h : OwnN B w v K) {b : Nat} (hb : v.ownBlock = some b) : B ≤ b ∧ ∃ cur, w.heap[b]? = some (.cells cur 40 (0, 0)) := by
  rcases h.2 with ⟨h1, _⟩ | ⟨g, cap, cur, hv, hg, hh, r⟩
  · rw [h1] at hb; cases hb
  · rw [hv] at hb
    have hb : some g = some b := hb
    simp only [Option.some.injEq] at hb
    subst hb
    exact ⟨hg, cur, hh⟩
theorem OwnN.keep {B : Nat} {w w' : World} {v : Value} {K : List (Nd × Option Addr × Nat)} (h : OwnN B w v K) (k : Keep w w') : OwnN B w' v K :=
  h.same (fun b hb => by obtain ⟨_, cur, hh⟩ := h.block hb; exact k.block b (Array.getElem?_eq_some_iff.1 hh).1)
theorem OwnN.shape {B : Nat} {w : World} {v : Value} {K : List (Nd × Option Addr × Nat)} (h : OwnN B w v K) : ∃ a c, v = .slice a K.length c ∧ K.length ≤ c ∧ ∀ j, j < K.length → ∃ b, a = some ⟨b, 0, none⟩ ∧ ∀ i u, i < 8 → (UN [K.getD j nt0])[i]? = some u → w.cell? ⟨b, j * 8 + i, none⟩ = some u := by
  rcases h.2 with ⟨h1, h2⟩ | ⟨g, cap, cur, hv, hg, hh, h1, h2, h3, h4⟩
  · exact ⟨none, 0, by rw [h1, h2], by omega, fun j hj => by omega⟩
  · refine ⟨some ⟨g, 0, none⟩, cap, hv, h1, ?_⟩
    intro j hj
    refine ⟨g, rfl, ?_⟩
    intro i u hi hu
    have e1 : cur.toList[j * 8 + i]? = (UN K)[j * 8 + i]? := by rw [← h4, List.getElem?_take, if_pos (by omega)]
    rw [cell_of_row w g _ cur 40 (0, 0) hh, ← hu, ← UN_get K j i hj hi, ← e1]; simp
theorem i40 : (Try.prog.info? 40).map (fun i => (i.zero, i.size, i.bytes)) = some (some (.agg #[.int .u8 0, .int .i64 0, .int .i64 0, .float .f64 0, .slice none 0 0, .int .u8 0, .int .i64 0, .int .i64 0]), 8, 80) := by kernel_rfl
theorem appN_sep (B : Nat) (w : World) (ty : Nat) (v : Value) (l : List (Nd × Option Addr × Nat)) (y : Nd × Option Addr × Nat) (hown : OwnN B w v l) (hB : B ≤ w.heap.size) (ad : Addr) (c : Nat) (hnews : ∀ j u, (UN [y])[j]? = some u → w.cell? (ad.add j) = some u) (hlen : l.length + 1 ≤ 1759218604441) :
    ∃ v' w', (Builtin.append_ #[22, 22] ty #[v, .slice (some ad) 1 c]).run Try.prog w = .ok v' w' ∧ OwnN B w' v' (l ++ [y]) ∧ w.grownBy w' v.ownBlock ∧ (v'.ownBlock = v.ownBlock ∨ v'.ownBlock = some w.heap.size) := by
  obtain ⟨i0, hi, hz0, hz1, hz2⟩ := info_parts i40
  have h1 : ∀ u ∈ UN [y], u.oneCell' = true := UN_one _
  have hl : (UN [y]).length = 1 * 8 := by rw [UN_length]; rfl
  obtain ⟨v', w', hr, h2, h3, -⟩ := run_append_own (P := Try.prog) w B 22 ty 40 i0 _ 8 80 Try.underlying22 hi hz0 hz1 hz2 rfl (by decide) v _ _ hown ad 1 c (UN [y]) hl hnews h1 (by simp only [maxLen]; omega) (by omega) hB
  refine ⟨v', w', hr, ?_, h3, ?_⟩
  · unfold OwnN; rw [List.length_append, UN_append]; exact h2
  rcases hown.2 with ⟨rfl, hn⟩ | ⟨g, cap, cur, rfl, hbg, hg, hnc, hcm, hcs, htake⟩
  · have e := run_append_nil (P := Try.prog) w 22 ty 40 i0 _ Try.underlying22 hi hz0 ad 1 c (UN [y]) (by rw [hz1]; exact hl) hnews (by omega) (by omega) (by rw [hz2]; omega)
    rw [hr] at e
    simp only [Result.ok.injEq] at e
    rw [e.1]
    exact .inr rfl
  · by_cases hroom : l.length + 1 ≤ cap
    · have e := run_append_room (P := Try.prog) w 22 ty 40 i0 Try.underlying22 hi g l.length cap cur hg ad 1 c (UN [y]) (by rw [hz1]; exact hl) hnews h1 hroom (by rw [hz1, UN_length]; simp; omega)
      rw [hr] at e
      simp only [Result.ok.injEq] at e
      rw [e.1]
      exact .inl rfl
    · have holds : ∀ j u, (UN l)[j]? = some u → w.cell? ((⟨g, 0, none⟩ : Addr).add j) = some u := World.ownsRow.cells (v := .slice (some ⟨g, 0, none⟩) l.length cap) hown (g := g) rfl
      have e := run_append_grow (P := Try.prog) w 22 ty 40 i0 _ Try.underlying22 hi hz0 ⟨g, 0, none⟩ l.length cap (UN l) (by rw [hz1, UN_length]) holds ad 1 c (UN [y]) (by rw [hz1]; exact hl) hnews (by omega) (by omega) (growslice_fits (by omega) (by rw [hz2]; omega))
      rw [hr] at e
      simp only [Result.ok.injEq] at e
      rw [e.1]
      exact .inr rfl
/-- append(l, node). -/
theorem wpList_appN (B : Nat) (w : World) {ops : Array Oper} {rest : List Oper} {o : Oper} {a : Act} {Q : Exit → Act → World → Prop} (hgd : o.guard = none) (s x : Operand)
    (hop : o.op = .call { callee := .builtin .append, args := #[s, x], argTypes := #[22, 22] }) (l : List (Nd × Option Addr × Nat)) (y : Nd × Option Addr × Nat) (v : Value) (hs : a.eval s = v) (hown : OwnN B w v l) (hB : B ≤ w.heap.size) (ad : Addr) (c : Nat) (hx : a.eval x = .slice (some ad) 1 c)
    (hnews : ∀ j u, (UN [y])[j]? = some u → w.cell? (ad.add j) = some u) (hlen : l.length + 1 ≤ 1759218604441)
    (hK : ∀ v' w', OwnN B w' v' (l ++ [y]) → w.grownBy w' v.ownBlock → (v'.ownBlock = v.ownBlock ∨ v'.ownBlock = some w.heap.size) → wpList Try.prog ops Q rest (a.put o.dst v') w') :
    wpList Try.prog ops Q (o :: rest) a w := by
  refine wpList_plain hgd fun K hK' => ?_
  obtain ⟨v', w', hrun, r1, r2, r3⟩ := appN_sep B w o.type v l y hown hB ad c hnews hlen
  unfold Oper.wp
  simp [execOp, hop, resolve, invoke, builtin, hs, hx, hrun, Result.andThen]
  exact hK' _ _ (hK v' w' r1 r2 r3)
end Go.Proofs.Ytbchinfmdioijaa
