import Derived.Test.YtonfjmibnnioiaaDoorY2
set_option linter.unusedVariables false
set_option linter.unusedSimpArgs false
namespace Go.Proofs.YtonfjmibnnioiaaDoor
open Go.RowKit Go.Shelf
/-- Of what was there, only blocks of T have turned. -/
structure Stp (T : Nat → Prop) (A B : World) : Prop where
  os : B.os = A.os
  tape : B.tape = A.tape
  output : B.output = A.output
  size : A.heap.size ≤ B.heap.size
  block : ∀ g, g < A.heap.size → ¬ T g → B.heap[g]? = A.heap[g]?
theorem Stp.refl (T : Nat → Prop) (A : World) : Stp T A A := ⟨rfl, rfl, rfl, Nat.le_refl _, fun _ _ _ => rfl⟩
theorem Stp.trans {T : Nat → Prop} {A B C : World} (h : Stp T A B) (k : Stp T B C) : Stp T A C :=
  ⟨k.os.trans h.os, k.tape.trans h.tape, k.output.trans h.output, Nat.le_trans h.size k.size, fun g hg ht => (k.block g (Nat.lt_of_lt_of_le hg h.size) ht).trans (h.block g hg ht)⟩
theorem Stp.of_keep {T : Nat → Prop} {A B : World} (k : Keep A B) : Stp T A B := ⟨k.os, k.tape, k.output, k.size, fun g hg _ => k.block g hg⟩
theorem Stp.keep {T : Nat → Prop} {A0 A B : World} (k : Keep A0 A) (h : Stp T A B) (hT : ∀ g, T g → A0.heap.size ≤ g) : Keep A0 B :=
  ⟨h.os.trans k.os, h.tape.trans k.tape, h.output.trans k.output, Nat.le_trans k.size h.size, fun g hg => (h.block g (Nat.lt_of_lt_of_le hg k.size) (fun t => by have := hT g t; omega)).trans (k.block g hg)⟩
theorem Stp.set {T : Nat → Prop} {A : World} {g j : Nat} (v : Value) (h : T g) : Stp T A (A.setCell ⟨g, j, none⟩ v) :=
  ⟨rfl, rfl, rfl, by simp, fun k _ hk => Below.heap_setCell _ _ _ _ (fun e => hk (by simp at e; subst e; exact h))⟩
theorem Stp.grown {T : Nat → Prop} {A B : World} {row : Option Nat} (h : A.grownBy B row) (hr : ∀ b, row = some b → T b) : Stp T A B :=
  ⟨h.os, h.tape, h.output, h.size, fun g hg ht => h.block g hg (fun e => ht (hr g e.symm))⟩
theorem own_same {B e s n : Nat} {w w' : World} {v : Value} {l : List Value} (h : w.ownsRow B e s v n l) (hb : ∀ b, v.ownBlock = some b → w'.heap[b]? = w.heap[b]?) : w'.ownsRow B e s v n l := by
  refine ⟨h.1, ?_⟩
  rcases h.2 with h2 | ⟨g, cap, cur, hv, hg, hh, r⟩
  · exact .inl h2
  · exact .inr ⟨g, cap, cur, hv, hg, by rw [hb g (by rw [hv]; rfl)]; exact hh, r⟩
/-- A row of one's own is as it was where nothing of it is written. -/
theorem own_stp {B e s n : Nat} {w w' : World} {v : Value} {l : List Value} {T : Nat → Prop} (h : w.ownsRow B e s v n l) (st : Stp T w w') (hT : ∀ g, B ≤ g → g < w.heap.size → ¬ T g) : w'.ownsRow B e s v n l :=
  own_same h fun b hb => by
    obtain ⟨h1, cur, hh⟩ := own_block h hb
    have hl : b < w.heap.size := lt_of_at hh
    exact st.block b hl (hT b h1 hl)
/-- A row of one's own, whatever it holds. -/
def OR (B T z : Nat) (w : World) (v : Value) (n : Nat) : Prop := ∃ l, w.ownsRow B T z v n l
theorem OR.of {B T z : Nat} {w : World} {v : Value} {n : Nat} {l : List Value} (h : w.ownsRow B T z v n l) : OR B T z w v n := ⟨l, h⟩
theorem OR.shape {B T z : Nat} {w : World} {v : Value} {n : Nat} (h : OR B T z w v n) : ∃ a c, v = .slice a n c ∧ n ≤ c := by
  obtain ⟨l, h1⟩ := h
  exact own_len h1
theorem OR.set {B T z : Nat} {w : World} {v : Value} {n g : Nat} (h : OR B T z w v n) (hb : v.ownBlock = some g) (q : Nat) (u : Value) : OR B T z (w.setCell ⟨g, q, none⟩ u) v n := by
  obtain ⟨l, h1, h2⟩ := h
  rcases h2 with ⟨hv, e⟩ | ⟨g', cap, cur, hv, hg, hh, h3, h4, h5, h6⟩
  · rw [hv] at hb; cases hb
  · rw [hv] at hb
    have hb : some g' = some g := hb
    simp only [Option.some.injEq] at hb
    subst hb
    refine ⟨(cur.setIfInBounds q u).toList.take (n * z), ?_, .inr ⟨g', cap, cur.setIfInBounds q u, hv, hg, heap_setCell_same w g' q _ T u hh, h3, h4, by simpa using h5, rfl⟩⟩
    rw [List.length_take, Array.length_toList, Array.size_setIfInBounds, h5]
    have : n * z ≤ cap * z := Nat.mul_le_mul_right z h3
    omega
theorem OR.at {B T z : Nat} {w : World} {a : Option Addr} {c n : Nat} (h : OR B T z w (.slice a n c) n) (hn : 0 < n) : ∃ g, a = some ⟨g, 0, none⟩ ∧ B ≤ g ∧ g < w.heap.size ∧ (∀ q, w.frozen? ⟨g, q, none⟩ = false) ∧ ∀ q, q < n * z → ∃ u, w.cell? ⟨g, q, none⟩ = some u := by
  obtain ⟨l, h1, h2⟩ := h
  rcases h2 with ⟨hv, e⟩ | ⟨g, cap, cur, hv, hg, hh, h3, h4, h5, h6⟩
  · omega
  · simp only [Value.slice.injEq, true_and] at hv
    obtain ⟨rfl, rfl⟩ := hv
    refine ⟨g, rfl, hg, lt_of_at hh, fun q => frozen_of_row w g q _ T hh, fun q hq => ?_⟩
    have hlt : q < cur.size := by rw [h5]; exact Nat.lt_of_lt_of_le hq (Nat.mul_le_mul_right z h3)
    exact ⟨cur[q], by rw [cell_of_row w g q cur T (0, 0) hh]; simp [hlt]⟩
/-- append of one element to whatever row of one's own: where it then lies. -/
theorem appO_run {S E z by' : Nat} {zv : Value} (hS : Tryd.prog.underlying S = some (.slice E)) (iE : (Tryd.prog.info? E).map (fun i => (i.zero, i.size, i.bytes)) = some (some zv, z, by')) (hzc : zv.cells.size = z) (hz : 0 < z) (hb : by' ≤ 32) (B : Nat) (w : World) (ty : Nat) (v : Value) (n : Nat) (ys : List Value) (hown : OR B E z w v n) (hB : B ≤ w.heap.size) (ad : Addr) (c : Nat) (hl : ys.length = z) (hnews : ∀ j u, ys[j]? = some u → w.cell? (ad.add j) = some u) (h1 : ∀ u ∈ ys, u.oneCell' = true) (hn : n + 1 ≤ 4294967296) :
    ∃ v' w', (Builtin.append_ #[S, S] ty #[v, .slice (some ad) 1 c]).run Tryd.prog w = .ok v' w' ∧ OR B E z w' v' (n + 1) ∧ w.grownBy w' v.ownBlock ∧ (v'.ownBlock = v.ownBlock ∨ v'.ownBlock = some w.heap.size) := by
  obtain ⟨xs, hown⟩ := hown
  obtain ⟨i0, hi, hz0, hz1, hz2⟩ := info_parts iE
  have hbb : (n + 1) * by' ≤ 4294967296 * 32 := Nat.mul_le_mul hn hb
  obtain ⟨v', w', hr, h2, h3, -⟩ := run_append_own (P := Tryd.prog) w B S ty E i0 _ z by' hS hi hz0 hz1 hz2 hzc hz v _ _ hown ad 1 c ys (by rw [hl, Nat.one_mul]) hnews h1 (by simp only [maxLen]; omega) (by omega) hB
  refine ⟨v', w', hr, ⟨_, h2⟩, h3, ?_⟩
  have hxl := hown.1
  rcases hown.2 with ⟨rfl, hn0⟩ | ⟨g, cap, cur, rfl, hbg, hg, hnc, hcm, hcs, htake⟩
  · have e := run_append_nil (P := Tryd.prog) w S ty E i0 _ hS hi hz0 ad 1 c ys (by rw [hz1, hl, Nat.one_mul]) hnews (by decide) (by omega) (by rw [hz2]; omega)
    rw [hr] at e
    simp only [Result.ok.injEq] at e
    rw [e.1]
    exact .inr rfl
  · by_cases hroom : n + 1 ≤ cap
    · have e := run_append_room (P := Tryd.prog) w S ty E i0 hS hi g n cap cur hg ad 1 c ys (by rw [hz1, hl, Nat.one_mul]) hnews h1 hroom (by
        rw [hz1, hcs, hl]
        have := Nat.mul_le_mul_right z hroom
        rw [Nat.add_mul, Nat.one_mul] at this
        exact this)
      rw [hr] at e
      simp only [Result.ok.injEq] at e
      rw [e.1]
      exact .inl rfl
    · have holds : ∀ j u, xs[j]? = some u → w.cell? ((⟨g, 0, none⟩ : Addr).add j) = some u := World.ownsRow.cells (v := .slice (some ⟨g, 0, none⟩) n cap) hown (g := g) rfl
      have e := run_append_grow (P := Tryd.prog) w S ty E i0 _ hS hi hz0 ⟨g, 0, none⟩ n cap xs (by rw [hz1]; exact hxl) holds ad 1 c ys (by rw [hz1, hl, Nat.one_mul]) hnews (by omega) (by omega) (growslice_fits (by omega) (by rw [hz2]; omega))
      rw [hr] at e
      simp only [Result.ok.injEq] at e
      rw [e.1]
      exact .inr rfl
theorem wpList_appO {S E z by' : Nat} {zv : Value} (hS : Tryd.prog.underlying S = some (.slice E)) (iE : (Tryd.prog.info? E).map (fun i => (i.zero, i.size, i.bytes)) = some (some zv, z, by')) (hzc : zv.cells.size = z) (hz : 0 < z) (hb : by' ≤ 32) (B : Nat) (w : World) {ops : Array Oper} {rest : List Oper} {o : Oper} {a : Act} {Q : Exit → Act → World → Prop} (hgd : o.guard = none) (s x : Operand)
    (hop : o.op = .call { callee := .builtin .append, args := #[s, x], argTypes := #[S, S] }) (n : Nat) (ys : List Value) (v : Value) (hs : a.eval s = v) (hown : OR B E z w v n) (hB : B ≤ w.heap.size) (ad : Addr) (c : Nat) (hx : a.eval x = .slice (some ad) 1 c) (hl : ys.length = z)
    (hnews : ∀ j u, ys[j]? = some u → w.cell? (ad.add j) = some u) (h1 : ∀ u ∈ ys, u.oneCell' = true) (hn : n + 1 ≤ 4294967296)
    (hK : ∀ v' w', OR B E z w' v' (n + 1) → w.grownBy w' v.ownBlock → (v'.ownBlock = v.ownBlock ∨ v'.ownBlock = some w.heap.size) → wpList Tryd.prog ops Q rest (a.put o.dst v') w') :
    wpList Tryd.prog ops Q (o :: rest) a w := by
  refine wpList_plain hgd fun K hK' => ?_
  obtain ⟨v', w', hrun, r1, r2, r3⟩ := appO_run hS iE hzc hz hb B w o.type v n ys hown hB ad c hl hnews h1 hn
  unfold Oper.wp
  simp [execOp, hop, resolve, invoke, builtin, hs, hx, hrun, Result.andThen]
  exact hK' _ _ (hK v' w' r1 r2 r3)
/-- Three cells written in a row of one's own. -/
theorem OR.set3 {B T z : Nat} {w : World} {v : Value} {n g : Nat} (h : OR B T z w v n) (hb : v.ownBlock = some g) (q : Nat) (u1 u2 u3 : Value) : OR B T z (((w.setCell ⟨g, q, none⟩ u1).setCell ⟨g, q + 1, none⟩ u2).setCell ⟨g, q + 2, none⟩ u3) v n :=
  ((h.set hb q u1).set hb (q + 1) u2).set hb (q + 2) u3
theorem Stp.set3 {T : Nat → Prop} {A : World} {g q : Nat} (u1 u2 u3 : Value) (h : T g) : Stp T A (((A.setCell ⟨g, q, none⟩ u1).setCell ⟨g, q + 1, none⟩ u2).setCell ⟨g, q + 2, none⟩ u3) :=
  ((Stp.set u1 h).trans (Stp.set u2 h)).trans (Stp.set u3 h)
end Go.Proofs.YtonfjmibnnioiaaDoor
