import Derived.Test.YtaogjiffnebnkaaP1
set_option linter.unusedVariables false
set_option linter.unusedSimpArgs false
namespace Go.Proofs.Ytaogjiffnebnkaa
open Go.RowKit Go.Shelf
/-- A cut. -/
structure Ct where
  th : Nat
  cs : List Int
  tr : Int
  fr : Int
  to : Int
def cd0 : Ct := ⟨0, [], 0, 0, 0⟩
def Ct.v (n : Ct) (ca : Option Addr) (cap : Nat) : Value := .agg #[.float .f64 n.th, .slice ca n.cs.length cap, .int .i64 n.tr, .int .i64 n.fr, .int .i64 n.to]
/-- A cut in memory. -/
structure CtAt (w : World) (b o : Nat) (n : Ct) (ca : Option Addr) (cap : Nat) : Prop where
  c0 : w.cell? ⟨b, o, none⟩ = some (.float .f64 n.th)
  c1 : w.cell? ⟨b, o + 1, none⟩ = some (.slice ca n.cs.length cap)
  c2 : w.cell? ⟨b, o + 2, none⟩ = some (.int .i64 n.tr)
  c3 : w.cell? ⟨b, o + 3, none⟩ = some (.int .i64 n.fr)
  c4 : w.cell? ⟨b, o + 4, none⟩ = some (.int .i64 n.to)
  rd : RdI w ca n.cs
  cp : n.cs.length ≤ cap
  sz : n.cs.length ≤ 17592186044416
theorem CtAt.keep {w w' : World} {b o : Nat} {n : Ct} {ca : Option Addr} {cap : Nat} (h : CtAt w b o n ca cap) (k : Keep w w') : CtAt w' b o n ca cap :=
  ⟨k.cell h.c0, k.cell h.c1, k.cell h.c2, k.cell h.c3, k.cell h.c4, h.rd.keep k, h.cp, h.sz⟩
/-- Cuts that can be read. -/
def RdC (w : World) (a : Option Addr) (L : List Ct) : Prop :=
  ∀ j, j < L.length → ∃ b o ca cap, a = some ⟨b, o, none⟩ ∧ CtAt w b (o + j * 5) (L.getD j cd0) ca cap
theorem RdC.keep {w w' : World} {a : Option Addr} {L : List Ct} (h : RdC w a L) (k : Keep w w') : RdC w' a L := by
  intro j hj
  obtain ⟨b, o, ca, cap, e, hc⟩ := h j hj
  exact ⟨b, o, ca, cap, e, hc.keep k⟩
/-- Nodes as cells. -/
def UC : List (Ct × Option Addr × Nat) → List Value
  | [] => []
  | r :: L => .float .f64 r.1.th :: .slice r.2.1 r.1.cs.length r.2.2 :: .int .i64 r.1.tr :: .int .i64 r.1.fr :: .int .i64 r.1.to :: UC L
theorem UC_append : ∀ L M, UC (L ++ M) = UC L ++ UC M
  | [], _ => rfl
  | r :: L, M => by simp [UC, UC_append L M]
theorem UC_length : ∀ L, (UC L).length = L.length * 5
  | [] => rfl
  | r :: L => by simp [UC, UC_length L]; omega
theorem UC_one : ∀ L, ∀ u ∈ UC L, u.oneCell' = true
  | [], u, h => by simp [UC] at h
  | r :: L, u, h => by
    simp only [UC, List.mem_cons] at h
    rcases h with rfl | rfl | rfl | rfl | rfl | h
    all_goals first | rfl | exact UC_one L u h
abbrev ct0 : Ct × Option Addr × Nat := (cd0, none, 0)
theorem UC_get : ∀ (K : List (Ct × Option Addr × Nat)) (j i : Nat), j < K.length → i < 5 → (UC K)[j * 5 + i]? = (UC [K.getD j ct0])[i]?
  | [], j, i, h, _ => by simp at h
  | r :: K, 0, i, _, hi => by
    simp only [Nat.zero_mul, Nat.zero_add, List.getD_cons_zero]
    match i, hi with
    | 0, _ => rfl
    | 1, _ => rfl
    | 2, _ => rfl
    | 3, _ => rfl
    | 4, _ => rfl
  | r :: K, j + 1, i, h, hi => by
    have := UC_get K j i (by simpa using h) hi
    rw [show (j + 1) * 5 + i = (j * 5 + i) + 1 + 1 + 1 + 1 + 1 by omega]
    simp only [UC, List.getElem?_cons_succ, List.getD_cons_succ]
    exact this
def OwnC (B : Nat) (w : World) (v : Value) (K : List (Ct × Option Addr × Nat)) : Prop := w.ownsRow B 57 5 v K.length (UC K)
theorem OwnC.nil (B : Nat) (w : World) : OwnC B w (.slice none 0 0) [] := ⟨rfl, .inl ⟨rfl, rfl⟩⟩
theorem OwnC.same {B : Nat} {w w' : World} {v : Value} {K : List (Ct × Option Addr × Nat)} (h : OwnC B w v K) (k : ∀ b, v.ownBlock = some b → w'.heap[b]? = w.heap[b]?) : OwnC B w' v K := by
  refine ⟨h.1, ?_⟩
  rcases h.2 with h2 | ⟨g, cap, cur, hv, hg, hh, r⟩
  · exact .inl h2
  · exact .inr ⟨g, cap, cur, hv, hg, by rw [k g (by rw [hv]; rfl)]; exact hh, r⟩
theorem OwnC.block {B : Nat} {w : World} {v : Value} {K : List (Ct × Option Addr × Nat)} (h : OwnC B w v K) {b : Nat} (hb : v.ownBlock = some b) : B ≤ b ∧ ∃ cur, w.heap[b]? = some (.cells cur 57 (0, 0)) := by
  rcases h.2 with ⟨h1, _⟩ | ⟨g, cap, cur, hv, hg, hh, r⟩
  · rw [h1] at hb; cases hb
  · rw [hv] at hb
    have hb : some g = some b := hb
    simp only [Option.some.injEq] at hb
    subst hb
    exact ⟨hg, cur, hh⟩
theorem OwnC.keep {B : Nat} {w w' : World} {v : Value} {K : List (Ct × Option Addr × Nat)} (h : OwnC B w v K) (k : Keep w w') : OwnC B w' v K :=
  h.same (fun b hb => by obtain ⟨_, cur, hh⟩ := h.block hb; exact k.block b (Array.getElem?_eq_some_iff.1 hh).1)
theorem OwnC.shape {B : Nat} {w : World} {v : Value} {K : List (Ct × Option Addr × Nat)} (h : OwnC B w v K) : ∃ a c, v = .slice a K.length c ∧ K.length ≤ c ∧ ∀ j, j < K.length → ∃ b, a = some ⟨b, 0, none⟩ ∧ ∀ i u, i < 5 → (UC [K.getD j ct0])[i]? = some u → w.cell? ⟨b, j * 5 + i, none⟩ = some u := by
  rcases h.2 with ⟨h1, h2⟩ | ⟨g, cap, cur, hv, hg, hh, h1, h2, h3, h4⟩
  · exact ⟨none, 0, by rw [h1, h2], by omega, fun j hj => by omega⟩
  · refine ⟨some ⟨g, 0, none⟩, cap, hv, h1, ?_⟩
    intro j hj
    refine ⟨g, rfl, ?_⟩
    intro i u hi hu
    have e1 : cur.toList[j * 5 + i]? = (UC K)[j * 5 + i]? := by rw [← h4, List.getElem?_take, if_pos (by omega)]
    rw [cell_of_row w g _ cur 57 (0, 0) hh, ← hu, ← UC_get K j i hj hi, ← e1]; simp
theorem i57 : (Try.prog.info? 57).map (fun i => (i.zero, i.size, i.bytes)) = some (some (.agg #[.float .f64 0, .slice none 0 0, .int .i64 0, .int .i64 0, .int .i64 0]), 5, 56) := by kernel_rfl
theorem appC_sep (B : Nat) (w : World) (ty : Nat) (v : Value) (l : List (Ct × Option Addr × Nat)) (y : Ct × Option Addr × Nat) (hown : OwnC B w v l) (hB : B ≤ w.heap.size) (ad : Addr) (c : Nat) (hnews : ∀ j u, (UC [y])[j]? = some u → w.cell? (ad.add j) = some u) (hlen : l.length + 1 ≤ 1099511627776) :
    ∃ v' w', (Builtin.append_ #[31, 31] ty #[v, .slice (some ad) 1 c]).run Try.prog w = .ok v' w' ∧ OwnC B w' v' (l ++ [y]) ∧ w.grownBy w' v.ownBlock ∧ (v'.ownBlock = v.ownBlock ∨ v'.ownBlock = some w.heap.size) := by
  obtain ⟨i0, hi, hz0, hz1, hz2⟩ := info_parts i57
  have h1 : ∀ u ∈ UC [y], u.oneCell' = true := UC_one _
  have hl : (UC [y]).length = 1 * 5 := by rw [UC_length]; rfl
  obtain ⟨v', w', hr, h2, h3, -⟩ := run_append_own (P := Try.prog) w B 31 ty 57 i0 _ 5 56 Try.underlying31 hi hz0 hz1 hz2 rfl (by decide) v _ _ hown ad 1 c (UC [y]) hl hnews h1 (by simp only [maxLen]; omega) (by omega) hB
  refine ⟨v', w', hr, ?_, h3, ?_⟩
  · unfold OwnC; rw [List.length_append, UC_append]; exact h2
  rcases hown.2 with ⟨rfl, hn⟩ | ⟨g, cap, cur, rfl, hbg, hg, hnc, hcm, hcs, htake⟩
  · have e := run_append_nil (P := Try.prog) w 31 ty 57 i0 _ Try.underlying31 hi hz0 ad 1 c (UC [y]) (by rw [hz1]; exact hl) hnews (by omega) (by omega) (by rw [hz2]; omega)
    rw [hr] at e
    simp only [Result.ok.injEq] at e
    rw [e.1]
    exact .inr rfl
  · by_cases hroom : l.length + 1 ≤ cap
    · have e := run_append_room (P := Try.prog) w 31 ty 57 i0 Try.underlying31 hi g l.length cap cur hg ad 1 c (UC [y]) (by rw [hz1]; exact hl) hnews h1 hroom (by rw [hz1, UC_length]; simp; omega)
      rw [hr] at e
      simp only [Result.ok.injEq] at e
      rw [e.1]
      exact .inl rfl
    · have holds : ∀ j u, (UC l)[j]? = some u → w.cell? ((⟨g, 0, none⟩ : Addr).add j) = some u := World.ownsRow.cells (v := .slice (some ⟨g, 0, none⟩) l.length cap) hown (g := g) rfl
      have e := run_append_grow (P := Try.prog) w 31 ty 57 i0 _ Try.underlying31 hi hz0 ⟨g, 0, none⟩ l.length cap (UC l) (by rw [hz1, UC_length]) holds ad 1 c (UC [y]) (by rw [hz1]; exact hl) hnews (by omega) (by omega) (growslice_fits (by omega) (by rw [hz2]; omega))
      rw [hr] at e
      simp only [Result.ok.injEq] at e
      rw [e.1]
      exact .inr rfl
/-- append(l, node). -/
theorem wpList_appC (B : Nat) (w : World) {ops : Array Oper} {rest : List Oper} {o : Oper} {a : Act} {Q : Exit → Act → World → Prop} (hgd : o.guard = none) (s x : Operand)
    (hop : o.op = .call { callee := .builtin .append, args := #[s, x], argTypes := #[31, 31] }) (l : List (Ct × Option Addr × Nat)) (y : Ct × Option Addr × Nat) (v : Value) (hs : a.eval s = v) (hown : OwnC B w v l) (hB : B ≤ w.heap.size) (ad : Addr) (c : Nat) (hx : a.eval x = .slice (some ad) 1 c)
    (hnews : ∀ j u, (UC [y])[j]? = some u → w.cell? (ad.add j) = some u) (hlen : l.length + 1 ≤ 1099511627776)
    (hK : ∀ v' w', OwnC B w' v' (l ++ [y]) → w.grownBy w' v.ownBlock → (v'.ownBlock = v.ownBlock ∨ v'.ownBlock = some w.heap.size) → wpList Try.prog ops Q rest (a.put o.dst v') w') :
    wpList Try.prog ops Q (o :: rest) a w := by
  refine wpList_plain hgd fun K hK' => ?_
  obtain ⟨v', w', hrun, r1, r2, r3⟩ := appC_sep B w o.type v l y hown hB ad c hnews hlen
  unfold Oper.wp
  simp [execOp, hop, resolve, invoke, builtin, hs, hx, hrun, Result.andThen]
  exact hK' _ _ (hK v' w' r1 r2 r3)
/-- append(l, whole numbers...), l of one's own and empty. -/
theorem wpList_copyE (B : Nat) {w : World} {ops : Array Oper} {rest : List Oper} {o : Oper} {a : Act} {Q : Exit → Act → World → Prop} (hgd : o.guard = none) (s x : Operand)
    (ho : o.op = .call { callee := .builtin .append, args := #[s, x], argTypes := #[55, 55] }) (g : Nat) (hown : OwnZ 3 B w (.slice (some ⟨g, 0, none⟩) 0 0) []) (hB : B ≤ w.heap.size) (l : List Int) (ad : Option Addr) (c : Nat) (hs : a.eval s = .slice (some ⟨g, 0, none⟩) 0 0)
    (hx : a.eval x = .slice ad l.length c) (hr : RdI w ad l) (hlen : l.length ≤ 17592186044416)
    (hK : ∀ v' w1, OwnZ 3 B w1 v' l → w.grownBy w1 (some g) → wpList Try.prog ops Q rest (a.put o.dst v') w1) :
    wpList Try.prog ops Q (o :: rest) a w := by
  obtain ⟨i0, hi, hz0, hz1, hz2⟩ := info_parts i3
  rcases ad with _ | ad
  · obtain rfl : l = [] := by
      by_cases h : l = []
      · exact h
      · obtain ⟨b, o, e, -⟩ := hr 0 (List.length_pos_iff.2 h); cases e
    refine wpList_plain hgd fun K hK' => ?_
    have hrun : (Builtin.append_ #[55, 55] o.type #[.slice (some ⟨g, 0, none⟩) 0 0, .slice none 0 c]).run Try.prog w = .ok (.slice (some ⟨g, 0, none⟩) 0 0) w := by
      go_simp
    unfold Oper.wp
    simp [execOp, ho, resolve, invoke, builtin, hs, hx, hrun, Result.andThen]
    exact hK' _ _ (hK _ w hown ⟨rfl, rfl, rfl, Nat.le_refl _, fun _ _ _ => rfl⟩)
  refine wpList_append_own _ hgd s x 55 ho B 3 i0 (.int .i64 0) 1 8 Try.underlying55 hi hz0 hz1 hz2 rfl (by decide) _ _ _ hs hown ad l.length c (UZ l) hx (by simp [UZ]) ?_ (UZ_one l) ?_ ?_ hB ?_
  · intro j u hj
    have hjl : j < l.length := by have := (List.getElem?_eq_some_iff.1 hj).1; simpa [UZ_length] using this
    rw [UZ_get l j hjl] at hj
    obtain ⟨b', o', e, hc⟩ := hr j hjl
    simp only [Option.some.injEq] at e
    subst e
    rw [Addr.add_lit, hc, hj]
  · simp only [maxLen, List.length_nil]; omega
  · simp only [List.length_nil]; omega
  · intro v' w1 h1 h2 _
    refine hK v' w1 ?_ h2
    unfold OwnZ; simpa [UZ] using h1
end Go.Proofs.Ytaogjiffnebnkaa
