import Derived.Test.YteonapeoeckhfaaDoorG12
set_option linter.unusedVariables false
set_option linter.unusedSimpArgs false
namespace Go.Proofs.YteonapeoeckhfaaDoor
open Go.RowKit
abbrev d4 : Value × Value × Value × Value := (.bool false, .bool false, .bool false, .bool false)
/-- The boxes of a copy that is under way. -/
structure CN (w : World) (A0 : Array Value) (B H : Nat) (kv tv v xv : Value) (wr : World) : Prop where
  kp : Keep w wr
  a0 : wr.heap[w.heap.size]? = some (.cells A0 27 (0, 0))
  a1 : wr.heap[w.heap.size + 1]? = some (.cells #[.int .u8 0, .string { data := #[] }, .slice none 0 0, .slice none 0 0] 27 (0, 0))
  bx : wr.heap[B]? = some (.cells #[kv, tv, v, xv] 27 (0, 0))
  sz : H ≤ wr.heap.size
theorem CN.keep {w : World} {A0 : Array Value} {B H : Nat} {kv tv v xv : Value} {wr w6 : World} (hI : CN w A0 B H kv tv v xv wr) (kw : Keep wr w6) : CN w A0 B H kv tv v xv w6 :=
  ⟨hI.kp.trans kw, (kw.block _ (Array.getElem?_eq_some_iff.1 hI.a0).1).trans hI.a0, (kw.block _ (Array.getElem?_eq_some_iff.1 hI.a1).1).trans hI.a1, (kw.block _ (Array.getElem?_eq_some_iff.1 hI.bx).1).trans hI.bx, Nat.le_trans hI.sz kw.le⟩
theorem CN.grow {w : World} {A0 : Array Value} {B H : Nat} {kv tv v xv : Value} {wr w7 : World} {row : Option Nat} (hI : CN w A0 B H kv tv v xv wr) (hB : w.heap.size + 1 < B) (hH : B < H) (g7 : wr.grownBy w7 row) (hr : ∀ b, row = some b → H ≤ b) : CN w A0 B H kv tv v xv w7 := by
  have hsz := hI.sz
  have hbl : ∀ b, b < H → w7.heap[b]? = wr.heap[b]? := fun b hb => g7.block b (by omega) (fun e => by have := hr b e.symm; omega)
  exact ⟨Below.grown hI.kp g7 (by have := hI.kp.le; omega) (fun b hb => by have := hr b hb; omega), (hbl _ (by omega)).trans hI.a0, (hbl _ (by omega)).trans hI.a1, (hbl _ (by omega)).trans hI.bx, Nat.le_trans hI.sz g7.size⟩
theorem CN.set2 {w : World} {A0 : Array Value} {B H : Nat} {kv tv v xv : Value} {wr : World} (hI : CN w A0 B H kv tv v xv wr) (hB : w.heap.size + 1 < B) (v' : Value) : CN w A0 B H kv tv v' xv (wr.setCell ⟨B, 2, none⟩ v') :=
  ⟨Below.setCell hI.kp (p := ⟨B, 2, none⟩) (by show w.heap.size ≤ B; omega) v', (neq_set wr _ _ _ _ (by omega)).trans hI.a0, (neq_set wr _ _ _ _ (by omega)).trans hI.a1, by have := heap_setCell_same wr B 2 _ 27 v' hI.bx; simpa using this, by rw [World.size_setCell]; exact hI.sz⟩
theorem CN.set3 {w : World} {A0 : Array Value} {B H : Nat} {kv tv v xv : Value} {wr : World} (hI : CN w A0 B H kv tv v xv wr) (hB : w.heap.size + 1 < B) (v' : Value) : CN w A0 B H kv tv v v' (wr.setCell ⟨B, 3, none⟩ v') :=
  ⟨Below.setCell hI.kp (p := ⟨B, 3, none⟩) (by show w.heap.size ≤ B; omega) v', (neq_set wr _ _ _ _ (by omega)).trans hI.a0, (neq_set wr _ _ _ _ (by omega)).trans hI.a1, by have := heap_setCell_same wr B 3 _ 27 v' hI.bx; simpa using this, by rw [World.size_setCell]; exact hI.sz⟩
theorem own_set {B e s n H j : Nat} {w : World} {v u : Value} {l : List Value} (h : w.ownsRow H e s v n l) (hB : B < H) : (w.setCell ⟨B, j, none⟩ u).ownsRow H e s v n l :=
  own_same h (fun b hb => neq_set w _ _ _ b (by have := (own_block h hb).1; omega))
theorem RdW.bound {w : World} {S : Nat → Prop} {v : Value} {j : J} (h : RdW w S v j) : RdW w (fun b => S b ∧ b < w.heap.size) v j := by
  induction h with
  | mk kk t ns is an cn ai ci X hk hn sn ln li hx hr ih =>
    refine RdW.mk kk t ns is an cn ai ci X hk hn ?_ ln li ?_ ih
    · intro b o e hne
      refine ⟨sn b o e hne, ?_⟩
      obtain ⟨b', o', e', hc⟩ := hn 0 (List.length_pos_iff.2 hne)
      rw [e] at e'
      cases e'
      exact World.block_lt_of_cell? _ _ hc
    · intro i hi
      obtain ⟨b, o, e, hb, h1, h2, h3, h4⟩ := hx i hi
      exact ⟨b, o, e, ⟨hb, World.block_lt_of_cell? _ _ h1⟩, h1, h2, h3, h4⟩
/-- The items of a copy that is under way. -/
structure CJ (is : List J) (H i : Nat) (v : Value) (wr : World) (K : List (Value × Value × Value × Value)) : Prop where
  len : K.length = i
  own : OwnJ H wr v K
  rd : ∀ j, j < i → RdW wr (fun b => H ≤ b ∧ b < wr.heap.size ∧ v.ownBlock ≠ some b) (.agg #[(K.getD j d4).1, (K.getD j d4).2.1, (K.getD j d4).2.2.1, (K.getD j d4).2.2.2]) (is.getD j j0)
theorem getD_snoc4 (K : List (Value × Value × Value × Value)) (r : Value × Value × Value × Value) (j : Nat) : (K ++ [r]).getD j d4 = if j = K.length then r else K.getD j d4 := by
  by_cases h : j < K.length
  · rw [if_neg (by omega)]; simp [List.getD, List.getElem?_append, h]
  · by_cases h2 : j = K.length
    · subst h2; simp [List.getD]
    · rw [if_neg h2]; simp [List.getD, List.getElem?_append, h, show ¬ j - K.length = 0 by omega]
theorem CJ.step {is : List J} {H i B : Nat} {v : Value} {wr : World} {K : List (Value × Value × Value × Value)} (hI : CJ is H i v wr K) (hB : B < H) (hH : H ≤ wr.heap.size) {y : Value × Value × Value × Value} {w6 w7 : World} {v' : Value} {ob : Obj}
    (kw : Keep wr w6) (hC : RdW w6 (fun b => wr.heap.size ≤ b) (.agg #[y.1, y.2.1, y.2.2.1, y.2.2.2]) (is.getD i j0)) (hO : OwnJ H w7 v' (K ++ [y])) (g7 : (w6.alloc ob).grownBy w7 v.ownBlock) (hv : v'.ownBlock = v.ownBlock ∨ v'.ownBlock = some (w6.heap.size + 1)) :
    CJ is H (i + 1) v' (w7.setCell ⟨B, 3, none⟩ v') (K ++ [y]) := by
  have hlt : ∀ b, v.ownBlock = some b → H ≤ b ∧ b < wr.heap.size := by
    intro b hb
    obtain ⟨h1, cur, hc⟩ := own_block hI.own hb
    exact ⟨h1, (Array.getElem?_eq_some_iff.1 hc).1⟩
  have hle := kw.le
  have ka : Keep w6 (w6.alloc ob) := (Keep.refl w6).alloc _
  have hsz := g7.size
  rw [World.size_alloc] at hsz
  have hbl : ∀ b, b < w6.heap.size → v.ownBlock ≠ some b → w7.heap[b]? = w6.heap[b]? := fun b hb hne => (g7.block b (by rw [World.size_alloc]; omega) (fun e => hne e.symm)).trans (ka.block b hb)
  have hbs : ∀ b, b ≠ B → (w7.setCell ⟨B, 3, none⟩ v').heap[b]? = w7.heap[b]? := fun b hb => neq_set w7 _ _ _ b hb
  have hss : (w7.setCell ⟨B, 3, none⟩ v').heap.size = w7.heap.size := by simp
  have hne' : ∀ b, b < w6.heap.size → v.ownBlock ≠ some b → v'.ownBlock ≠ some b := by
    intro b hb hne e
    rcases hv with h | h
    · rw [h] at e; exact hne e
    · rw [h] at e; simp only [Option.some.injEq] at e; omega
  refine ⟨by rw [List.length_append, hI.len]; rfl, own_set hO hB, ?_⟩
  intro j hj
  rw [getD_snoc4, hI.len]
  by_cases e : j = i
  · rw [if_pos e, e]
    refine hC.bound.same ?_ ?_
    · rintro b ⟨h1, h2⟩
      rw [hbs b (by omega)]
      exact hbl b h2 (fun e => by have := hlt b e; omega)
    · rintro b ⟨h1, h2⟩
      exact ⟨by omega, by omega, hne' b h2 (fun e => by have := hlt b e; omega)⟩
  · rw [if_neg e]
    refine (hI.rd j (by omega)).same ?_ ?_
    · rintro b ⟨h1, h2, h3⟩
      rw [hbs b (by omega), hbl b (by omega) h3, kw.block b h2]
    · rintro b ⟨h1, h2, h3⟩
      exact ⟨h1, by omega, hne' b (by omega) h3⟩
theorem names_step {is : List J} {H i B : Nat} {v vn : Value} {ns : List ByteArray} {wr : World} {K : List (Value × Value × Value × Value)} (hI : CJ is H i v wr K) (hN : OwnS H wr vn ns) (hB : B < H) {w6 w7 : World} {v' : Value} {ob : Obj}
    (kw : Keep wr w6) (g7 : (w6.alloc ob).grownBy w7 v.ownBlock) : OwnS H (w7.setCell ⟨B, 3, none⟩ v') vn ns := by
  refine own_set (own_same hN ?_) hB
  intro b hb
  obtain ⟨h1, cur, hc⟩ := own_block hN hb
  have hlt := (Array.getElem?_eq_some_iff.1 hc).1
  have hle := kw.le
  refine (g7.block b (by rw [World.size_alloc]; omega) ?_).trans (((Keep.refl w6).alloc ob).block b (by omega) |>.trans (kw.block b hlt))
  intro e
  obtain ⟨-, cur2, hc2⟩ := own_block hI.own e.symm
  rw [hc] at hc2
  simp at hc2
theorem copy_done {k : Nat} {t : ByteArray} {ns : List ByteArray} {is : List J} {H : Nat} {an ai : Option Addr} {cn ci : Nat} {wr : World} {K : List (Value × Value × Value × Value)} (hk : k < 256) (ln : ns.length ≤ 140737488355328) (li : is.length ≤ 140737488355328)
    (hN : OwnS H wr (.slice an ns.length cn) ns) (hI : CJ is H is.length (.slice ai is.length ci) wr K) : RdW wr (fun b => H ≤ b) (.agg #[.int .u8 (k : Nat), .string t, .slice an ns.length cn, .slice ai is.length ci]) (.mk k t ns is) := by
  obtain ⟨a', c', e, -, hr⟩ := hN.shape
  simp only [Value.slice.injEq] at e
  obtain ⟨rfl, -, rfl⟩ := e
  obtain ⟨a2, c2, e, -, hj⟩ := hI.own.shape d4
  simp only [Value.slice.injEq] at e
  obtain ⟨rfl, -, rfl⟩ := e
  refine RdW.mk k t ns is an cn ai ci (fun j => K.getD j d4) hk hr ?_ ln li ?_ ?_
  · intro b o e hne
    exact (own_block hN (b := b) (by rw [e]; rfl)).1
  · intro i hi
    obtain ⟨b, e, hb, h1, h2, h3, h4⟩ := hj i (by rw [hI.len]; exact hi)
    exact ⟨b, 0, e, hb, h1, h2, h3, h4⟩
  · intro i hi
    exact (hI.rd i hi).same (fun _ _ => rfl) (fun b hb => hb.1)
end Go.Proofs.YteonapeoeckhfaaDoor
