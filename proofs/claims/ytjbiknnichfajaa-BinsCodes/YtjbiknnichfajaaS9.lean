import Derived.Test.YtjbiknnichfajaaS8
import Derived.Deep.RegionLaw
set_option linter.unusedVariables false
set_option linter.unusedSimpArgs false
namespace Go.Proofs.Ytjbiknnichfajaa
open Go.RowKit Go.Shelf
theorem i28 : (Try.prog.info? 28).map (fun i => (i.zero, i.size, i.bytes)) = some (some (.agg #[.int .i64 0, .int .i64 0, .bool false]), 3, 24) := by kernel_rfl
theorem i33 : (Try.prog.info? 33).map (fun i => (i.zero, i.size, i.bytes)) = some (some (.float .f64 0), 1, 8) := by kernel_rfl
theorem i36 : (Try.prog.info? 36).map (fun i => (i.zero, i.size, i.bytes)) = some (some (.int .u64 0), 1, 8) := by kernel_rfl
/-- append of one element, of whatever row of one's own. -/
theorem appG_run {S E z by' : Nat} {zv : Value} (hS : Try.prog.underlying S = some (.slice E)) (iE : (Try.prog.info? E).map (fun i => (i.zero, i.size, i.bytes)) = some (some zv, z, by')) (hzc : zv.cells.size = z) (hz : 0 < z) (B : Nat) (w : World) (ty : Nat) (v : Value) (n : Nat) (xs ys : List Value) (hown : w.ownsRow B E z v n xs) (hB : B ≤ w.heap.size) (ad : Addr) (c : Nat) (hl : ys.length = z) (hnews : ∀ j u, ys[j]? = some u → w.cell? (ad.add j) = some u) (h1 : ∀ u ∈ ys, u.oneCell' = true) (hn : n + 1 ≤ 65537) (hb : by' ≤ 24) :
    ∃ v' w', (Builtin.append_ #[S, S] ty #[v, .slice (some ad) 1 c]).run Try.prog w = .ok v' w' ∧ w'.ownsRow B E z v' (n + 1) (xs ++ ys) ∧ w.grownBy w' v.ownBlock := by
  obtain ⟨i0, hi, hz0, hz1, hz2⟩ := info_parts iE
  obtain ⟨v', w', hr, h2, h3, -⟩ := run_append_own (P := Try.prog) w B S ty E i0 _ z by' hS hi hz0 hz1 hz2 hzc hz v _ _ hown ad 1 c ys (by rw [hl, Nat.one_mul]) hnews h1 (by simp only [maxLen]; omega) (by
    have : (n + 1) * by' ≤ 65537 * 24 := Nat.mul_le_mul hn hb
    omega) hB
  exact ⟨v', w', hr, h2, h3⟩
theorem wpList_appG {S E z by' : Nat} {zv : Value} (hS : Try.prog.underlying S = some (.slice E)) (iE : (Try.prog.info? E).map (fun i => (i.zero, i.size, i.bytes)) = some (some zv, z, by')) (hzc : zv.cells.size = z) (hz : 0 < z) (hb : by' ≤ 24) (B : Nat) (w : World) {ops : Array Oper} {rest : List Oper} {o : Oper} {a : Act} {Q : Exit → Act → World → Prop} (hgd : o.guard = none) (s x : Operand)
    (hop : o.op = .call { callee := .builtin .append, args := #[s, x], argTypes := #[S, S] }) (n : Nat) (xs ys : List Value) (v : Value) (hs : a.eval s = v) (hown : w.ownsRow B E z v n xs) (hB : B ≤ w.heap.size) (ad : Addr) (c : Nat) (hx : a.eval x = .slice (some ad) 1 c) (hl : ys.length = z)
    (hnews : ∀ j u, ys[j]? = some u → w.cell? (ad.add j) = some u) (h1 : ∀ u ∈ ys, u.oneCell' = true) (hn : n + 1 ≤ 65537)
    (hK : ∀ v' w', w'.ownsRow B E z v' (n + 1) (xs ++ ys) → w.grownBy w' v.ownBlock → wpList Try.prog ops Q rest (a.put o.dst v') w') :
    wpList Try.prog ops Q (o :: rest) a w := by
  refine wpList_plain hgd fun K hK' => ?_
  obtain ⟨v', w', hrun, r1, r2⟩ := appG_run hS iE hzc hz B w o.type v n xs ys hown hB ad c hl hnews h1 hn hb
  unfold Oper.wp
  simp [execOp, hop, resolve, invoke, builtin, hs, hx, hrun, Result.andThen]
  exact hK' _ _ (hK v' w' r1 r2)
theorem step_appG {S E z by' : Nat} {zv : Value} (hS : Try.prog.underlying S = some (.slice E)) (iE : (Try.prog.info? E).map (fun i => (i.zero, i.size, i.bytes)) = some (some zv, z, by')) (hzc : zv.cells.size = z) (hz : 0 < z) (hb : by' ≤ 24) (B : Nat) {W : World} {ops : Array Oper} {o : Oper} {a : Act} {K : Act → World → Prop} {Q : Exit → Act → World → Prop} {X : Prop} (hgd : o.guard = none) (s x : Operand)
    (ho : o.op = .call { callee := .builtin .append, args := #[s, x], argTypes := #[S, S] }) (n : Nat) (xs ys : List Value) (v : Value) (hown : W.ownsRow B E z v n xs) (hB : B ≤ W.heap.size) (hn : n + 1 ≤ 65537) (ad : Addr) (c : Nat) (hl : ys.length = z) (hnews : ∀ j u, ys[j]? = some u → W.cell? (ad.add j) = some u) (h1 : ∀ u ∈ ys, u.oneCell' = true)
    (hs : a.eval s = v) (hx : a.eval x = .slice (some ad) 1 c)
    (hK : ∀ v' w', w'.ownsRow B E z v' (n + 1) (xs ++ ys) → W.grownBy w' v.ownBlock → K (a.put o.dst v') w') :
    if Region.wanted o (yielded ops a.tmps) = true then Oper.wp Try.prog o a W K Q else X := by
  have hw : Region.wanted o (yielded ops a.tmps) = true := by simp [Region.wanted, hgd]
  rw [if_pos hw]
  obtain ⟨v', w', hr, h2, h3⟩ := appG_run hS iE hzc hz B W o.type v n xs ys hown hB ad c hl hnews h1 hn hb
  unfold Oper.wp execOp
  simp only [ho, resolve, invoke, builtin, Sem.run_bind, Sem.run_pure, Result.andThen_ok, List.map_toArray, List.map_cons, List.map_nil, hs, hx, hr]
  exact hK v' w' h2 h3
theorem own_block {B e s n : Nat} {w : World} {v : Value} {l : List Value} (h : w.ownsRow B e s v n l) {b : Nat} (hb : v.ownBlock = some b) : B ≤ b ∧ ∃ cur, w.heap[b]? = some (.cells cur e (0, 0)) := by
  rcases h.2 with ⟨h1, _⟩ | ⟨g, cap, cur, hv, hg, hh, r⟩
  · rw [h1] at hb; cases hb
  · rw [hv] at hb
    have hb : some g = some b := hb
    simp only [Option.some.injEq] at hb
    subst hb
    exact ⟨hg, cur, hh⟩
theorem own_keep {B e s n : Nat} {w w' : World} {v : Value} {l : List Value} (h : w.ownsRow B e s v n l) (k : Keep w w') : w'.ownsRow B e s v n l := by
  refine ⟨h.1, ?_⟩
  rcases h.2 with h2 | ⟨g, cap, cur, hv, hg, hh, r⟩
  · exact .inl h2
  · exact .inr ⟨g, cap, cur, hv, hg, k.at hh, r⟩
theorem own_nil (E z B : Nat) (w : World) : w.ownsRow B E z (.slice none 0 0) 0 [] := ⟨by simp, .inl ⟨rfl, rfl⟩⟩
/-- The world behind an append keeps what lay below the row's base. -/
theorem keep_grown {W w w' : World} {e s n : Nat} {v : Value} {l : List Value} (k : Keep W w) (h : w.ownsRow W.heap.size e s v n l) (g : w.grownBy w' v.ownBlock) : Keep W w' :=
  Below.grown k g k.le (fun b hb => (own_block h hb).1)
theorem own_at {B e n : Nat} {w : World} {v : Value} {l : List Value} (h : w.ownsRow B e 1 v n l) : ∃ a c, v = .slice a n c ∧ n ≤ c ∧ ∀ j u, l[j]? = some u → ∃ b o, a = some ⟨b, o, none⟩ ∧ w.cell? ⟨b, o + j, none⟩ = some u := by
  have hl := h.1
  rcases h.2 with ⟨h1, h2⟩ | ⟨g, cap, cur, hv, hg, hh, h1, h2, h3, h4⟩
  · exact ⟨none, 0, by rw [h1, h2], by omega, fun j u hj => by
      have := (List.getElem?_eq_some_iff.1 hj).1
      omega⟩
  · refine ⟨some ⟨g, 0, none⟩, cap, hv, h1, fun j u hj => ⟨g, 0, rfl, ?_⟩⟩
    have hjl := (List.getElem?_eq_some_iff.1 hj).1
    rw [Nat.zero_add, cell_of_row w g j cur e (0, 0) hh, ← hj, ← h4, List.getElem?_take, if_pos (by rw [hl] at hjl; exact hjl)]
    simp
/-- Codes as cells. -/
def CvL : List Cd → List Value
  | [] => []
  | c :: l => .int .i64 c.1 :: .int .i64 c.2.1 :: .bool c.2.2 :: CvL l
theorem CvL_len : ∀ l, (CvL l).length = l.length * 3
  | [] => rfl
  | c :: l => by simp [CvL, CvL_len l]; omega
theorem CvL_app : ∀ l m, CvL (l ++ m) = CvL l ++ CvL m
  | [], m => rfl
  | c :: l, m => by simp [CvL, CvL_app l m]
def c0 : Cd := (0, 0, false)
theorem CvL_get : ∀ (l : List Cd) (j : Nat), j < l.length → (CvL l)[j * 3]? = some (.int .i64 (l.getD j c0).1) ∧ (CvL l)[j * 3 + 1]? = some (.int .i64 (l.getD j c0).2.1) ∧ (CvL l)[j * 3 + 2]? = some (.bool (l.getD j c0).2.2)
  | c :: l, 0, _ => ⟨rfl, rfl, rfl⟩
  | c :: l, j + 1, h => by
    have := CvL_get l j (by simpa using h)
    rw [show (j + 1) * 3 = j * 3 + 3 by omega]
    simpa [CvL] using this
theorem CvL_one : ∀ l, ∀ u ∈ CvL l, u.oneCell' = true
  | [], u, h => by simp [CvL] at h
  | c :: l, u, h => by
    simp only [CvL, List.mem_cons] at h
    rcases h with rfl | rfl | rfl | h
    · rfl
    · rfl
    · rfl
    · exact CvL_one l u h
theorem CvL_set : ∀ (l : List Cd) (j : Nat) (c : Cd), ((((CvL l).set (j * 3) (.int .i64 c.1)).set (j * 3 + 1) (.int .i64 c.2.1)).set (j * 3 + 2) (.bool c.2.2)) = CvL (l.set j c)
  | [], j, c => rfl
  | d :: l, 0, c => rfl
  | d :: l, j + 1, c => by
    have := CvL_set l j c
    rw [show (j + 1) * 3 = j * 3 + 3 by omega]
    simp only [CvL, List.set_cons_succ, ← this]
/-- Codes that can be read. -/
def RdC (w : World) (a : Option Addr) (l : List Cd) : Prop := ∀ j, j < l.length → ∃ b o, a = some ⟨b, o, none⟩ ∧ w.cell? ⟨b, o + j * 3, none⟩ = some (.int .i64 (l.getD j c0).1) ∧ w.cell? ⟨b, o + j * 3 + 1, none⟩ = some (.int .i64 (l.getD j c0).2.1) ∧ w.cell? ⟨b, o + j * 3 + 2, none⟩ = some (.bool (l.getD j c0).2.2)
theorem RdC.keep {w w' : World} {a : Option Addr} {l : List Cd} (h : RdC w a l) (k : Keep w w') : RdC w' a l := by
  intro j hj
  obtain ⟨b, o, e, h1, h2, h3⟩ := h j hj
  exact ⟨b, o, e, k.cell h1, k.cell h2, k.cell h3⟩
theorem own_rdc {B : Nat} {w : World} {v : Value} {l : List Cd} (h : w.ownsRow B 28 3 v l.length (CvL l)) : ∃ a c, v = .slice a l.length c ∧ l.length ≤ c ∧ RdC w a l := by
  rcases h.2 with ⟨h1, h2⟩ | ⟨g, cap, cur, hv, hg, hh, h1, h2, h3, h4⟩
  · exact ⟨none, 0, by rw [h1, h2], by omega, fun j hj => by omega⟩
  · refine ⟨some ⟨g, 0, none⟩, cap, hv, h1, fun j hj => ⟨g, 0, rfl, ?_⟩⟩
    obtain ⟨a1, a2, a3⟩ := CvL_get l j hj
    have hc : ∀ i, i < l.length * 3 → w.cell? ⟨g, i, none⟩ = (CvL l)[i]? := fun i hi => by
      rw [cell_of_row w g i cur 28 (0, 0) hh, ← h4]
      simp [hi]
    rw [Nat.zero_add]
    exact ⟨by rw [hc _ (by omega)]; exact a1, by rw [hc _ (by omega)]; exact a2, by rw [hc _ (by omega)]; exact a3⟩
/-- A block of codes. -/
def RowC (w : World) (g : Nat) (l : List Cd) : Prop := w.heap[g]? = some (.cells (CvL l).toArray 28 (0, 0))
theorem RowC.cell {w : World} {g : Nat} {l : List Cd} (h : RowC w g l) (j : Nat) (hj : j < l.length) : w.cell? ⟨g, j * 3, none⟩ = some (.int .i64 (l.getD j c0).1) ∧ w.cell? ⟨g, j * 3 + 1, none⟩ = some (.int .i64 (l.getD j c0).2.1) ∧ w.cell? ⟨g, j * 3 + 2, none⟩ = some (.bool (l.getD j c0).2.2) ∧ w.frozen? ⟨g, j * 3, none⟩ = false ∧ w.frozen? ⟨g, j * 3 + 1, none⟩ = false ∧ w.frozen? ⟨g, j * 3 + 2, none⟩ = false := by
  obtain ⟨a1, a2, a3⟩ := CvL_get l j hj
  exact ⟨by rw [cell_of_row w g _ _ 28 (0, 0) h]; simpa using a1, by rw [cell_of_row w g _ _ 28 (0, 0) h]; simpa using a2, by rw [cell_of_row w g _ _ 28 (0, 0) h]; simpa using a3, frozen_of_row w g _ _ 28 h, frozen_of_row w g _ _ 28 h, frozen_of_row w g _ _ 28 h⟩
theorem RowC.set {w : World} {g : Nat} {l : List Cd} (h : RowC w g l) (j : Nat) (c : Cd) : RowC (((w.setCell ⟨g, j * 3, none⟩ (.int .i64 c.1)).setCell ⟨g, j * 3 + 1, none⟩ (.int .i64 c.2.1)).setCell ⟨g, j * 3 + 2, none⟩ (.bool c.2.2)) g (l.set j c) := by
  have h1 := heap_setCell_same w g (j * 3) _ 28 (.int .i64 c.1) h
  have h2 := heap_setCell_same _ g (j * 3 + 1) _ 28 (.int .i64 c.2.1) h1
  have h3 := heap_setCell_same _ g (j * 3 + 2) _ 28 (.bool c.2.2) h2
  unfold RowC
  rw [h3, ← CvL_set]
  simp
theorem RowC.keep {w w' : World} {g : Nat} {l : List Cd} (h : RowC w g l) (k : Keep w w') : RowC w' g l := k.at h
theorem RowC.rdc {w : World} {g : Nat} {l : List Cd} (h : RowC w g l) : RdC w (some ⟨g, 0, none⟩) l := fun j hj => by
  obtain ⟨a1, a2, a3, -⟩ := h.cell j hj
  exact ⟨g, 0, rfl, by rw [Nat.zero_add]; exact a1, by rw [Nat.zero_add]; exact a2, by rw [Nat.zero_add]; exact a3⟩
theorem made28 (n : Nat) : madeCells #[.int .i64 0, .int .i64 0, .bool false] (n * 3) = (CvL (List.replicate n c0)).toArray := by
  rw [← Array.toList_inj]
  apply List.ext_getElem?
  intro i
  by_cases hi : i < n * 3
  · obtain ⟨a1, a2, a3⟩ := CvL_get (List.replicate n c0) (i / 3) (by simp; omega)
    have hd : (List.replicate n c0).getD (i / 3) c0 = c0 := by simp only [List.getD, List.getElem?_replicate]; split <;> rfl
    rw [hd] at a1 a2 a3
    have hm : i % 3 = 0 ∨ i % 3 = 1 ∨ i % 3 = 2 := by omega
    simp only [madeCells, Array.toList_map, List.getElem?_map, Array.toList_range, List.getElem?_range hi, Option.map_some]
    rcases hm with h | h | h
    · rw [show i / 3 * 3 = i by omega] at a1
      rw [a1]; simp [h, c0]
    · rw [show i / 3 * 3 + 1 = i by omega] at a2
      rw [a2]; simp [h, c0]
    · rw [show i / 3 * 3 + 2 = i by omega] at a3
      rw [a3]; simp [h, c0]
  · rw [List.getElem?_eq_none (by simp [madeCells]; omega), List.getElem?_eq_none (by simp [CvL_len]; omega)]
/-- make([]api.Code, n). -/
theorem wpList_makeC (w : World) {ops : Array Oper} {rest : List Oper} {o : Oper} {a : Act} {Q : Exit → Act → World → Prop}
    (hg : o.guard = none) (l c : Operand) (hop : o.op = Op.makeSlice 29 l c) (n : Nat) (hl : a.eval l = .int .i64 (n : Nat)) (hc : a.eval c = .int .i64 (n : Nat)) (hn : n ≤ 65536)
    (hK : ∀ w', RowC w' w.heap.size (List.replicate n c0) → Keep w w' → w'.heap.size = w.heap.size + 1 → wpList Try.prog ops Q rest (a.put o.dst (.slice (some ⟨w.heap.size, 0, none⟩) n n)) w') :
    wpList Try.prog ops Q (o :: rest) a w := by
  refine wpList_plain hg fun K hK' => ?_
  obtain ⟨i, hi, hz0, hz1, hz2⟩ := info_parts i28
  have hr := run_make (P := Try.prog) w 29 28 i _ Try.underlying29 hi hz0 .i64 .i64 n n (by omega) (by omega) (by rw [hz2]; omega) (by omega)
  rw [hz1] at hr
  unfold Oper.wp
  simp only [Int.toNat_natCast, Value.cells, made28] at hr
  simp [execOp, hop, hl, hc, hr, Result.andThen]
  exact hK' _ _ (hK _ (heap_alloc_new w _) ((Keep.refl w).alloc _) (by simp))
end Go.Proofs.Ytjbiknnichfajaa
