import Derived.Test.YtieheijcfiijmaaDoorProg
import Derived.Test.YtieheijcfiijmaaDoorZX5
import Derived.Deep.RegionLaw
import Derived.Shelf.Abstract
import Derived.Below
import Derived.WalkKit
import Derived.WalkSpells
import Derived.WalkLawsBesides
import Derived.Deep.Draws
import Derived.Deep.QuietTactic
import Derived.BigQuiet
import Derived.Laws.Externs
import Derived.Laws.CopyOwn
import Derived.BigRegion
import Derived.Laws.BitsAll
import Derived.Deep.RegionHeld3
import Derived.Deep.Cut
set_option linter.unusedVariables false
set_option linter.unusedSimpArgs false
namespace Go.Proofs.YtieheijcfiijmaaDoor
open Go.RowKit Go.Shelf
theorem own_same {B e s n : Nat} {w w' : World} {v : Value} {l : List Value} (h : w.ownsRow B e s v n l) (k : ∀ b, v.ownBlock = some b → w'.heap[b]? = w.heap[b]?) : w'.ownsRow B e s v n l := by
  refine ⟨h.1, ?_⟩
  rcases h.2 with h2 | ⟨g, cap, cur, hv, hg, hh, r⟩
  · exact .inl h2
  · exact .inr ⟨g, cap, cur, hv, hg, by rw [k g (by rw [hv]; rfl)]; exact hh, r⟩
theorem own_block {B e s n : Nat} {w : World} {v : Value} {l : List Value} (h : w.ownsRow B e s v n l) {b : Nat} (hb : v.ownBlock = some b) : B ≤ b ∧ ∃ cur, w.heap[b]? = some (.cells cur e (0, 0)) := by
  rcases h.2 with ⟨h1, _⟩ | ⟨g, cap, cur, hv, hg, hh, r⟩
  · rw [h1] at hb; cases hb
  · rw [hv] at hb
    have hb : some g = some b := hb
    simp only [Option.some.injEq] at hb
    subst hb
    exact ⟨hg, cur, hh⟩
theorem own_keep {B e s n : Nat} {w w' : World} {v : Value} {l : List Value} (h : w.ownsRow B e s v n l) (k : Keep w w') : w'.ownsRow B e s v n l :=
  own_same h (fun b hb => by obtain ⟨_, cur, hh⟩ := own_block h hb; exact k.block b (Array.getElem?_eq_some_iff.1 hh).1)
/-- A slice: where, how long, how much room. -/
abbrev Sl := Option Addr × Nat × Nat
abbrev s0 : Sl := (none, 0, 0)
def US (K : List Sl) : List Value := K.map fun x => .slice x.1 x.2.1 x.2.2
theorem US_get (K : List Sl) (j : Nat) (h : j < K.length) : (US K)[j]? = some (.slice (K.getD j s0).1 (K.getD j s0).2.1 (K.getD j s0).2.2) := by simp [US, List.getD, h]
/-- A row of slices with memory of its own. -/
def OwnS (E B : Nat) (w : World) (v : Value) (K : List Sl) : Prop := w.ownsRow B E 1 v K.length (US K)
theorem OwnS.nil (E B : Nat) (w : World) : OwnS E B w (.slice none 0 0) [] := ⟨rfl, .inl ⟨rfl, rfl⟩⟩
theorem OwnS.shape {E B : Nat} {w : World} {v : Value} {K : List Sl} (h : OwnS E B w v K) : ∃ a c, v = .slice a K.length c ∧ K.length ≤ c ∧ ∀ j, j < K.length → ∃ b o, a = some ⟨b, o, none⟩ ∧ w.cell? ⟨b, o + j, none⟩ = some (.slice (K.getD j s0).1 (K.getD j s0).2.1 (K.getD j s0).2.2) := by
  rcases h.2 with ⟨h1, h2⟩ | ⟨g, cap, cur, hv, hg, hh, h1, h2, h3, h4⟩
  · exact ⟨none, 0, by rw [h1, h2], by omega, fun j hj => by omega⟩
  · refine ⟨some ⟨g, 0, none⟩, cap, hv, h1, ?_⟩
    intro j hj
    refine ⟨g, 0, rfl, ?_⟩
    have e1 : cur.toList[j]? = (US K)[j]? := by rw [← h4, List.getElem?_take, if_pos (by omega)]
    rw [Nat.zero_add, cell_of_row w g _ cur E (0, 0) hh, ← US_get K j hj, ← e1]; simp
theorem i51 : (Tryd.prog.info? 65).map (fun i => (i.zero, i.size, i.bytes)) = some (some (.slice none 0 0), 1, 24) := by kernel_rfl
theorem appS_run {S E : Nat} (hS : Tryd.prog.underlying S = some (.slice E)) (iE : (Tryd.prog.info? E).map (fun i => (i.zero, i.size, i.bytes)) = some (some (.slice none 0 0), 1, 24)) (B : Nat) (w : World) (ty : Nat) (v : Value) (l : List Sl) (y : Sl) (hown : OwnS E B w v l) (hB : B ≤ w.heap.size) (ad : Addr) (c : Nat) (hnews : w.cell? ad = some (.slice y.1 y.2.1 y.2.2)) (hlen : l.length + 1 ≤ 5864062014805) :
    ∃ v' w', (Builtin.append_ #[S, S] ty #[v, .slice (some ad) 1 c]).run Tryd.prog w = .ok v' w' ∧ OwnS E B w' v' (l ++ [y]) ∧ w.grownBy w' v.ownBlock := by
  obtain ⟨i0, hi, hz0, hz1, hz2⟩ := info_parts iE
  obtain ⟨v', w', hr, h2, h3, -⟩ := run_append_own (P := Tryd.prog) w B S ty E i0 _ 1 24 hS hi hz0 hz1 hz2 rfl (by decide) v _ _ hown ad 1 c (US [y]) (by simp [US]) (by
    intro j u hj
    match j, hj with
    | 0, hj =>
      simp [US] at hj
      subst hj
      simpa [Addr.add] using hnews
    | j + 1, hj => simp [US] at hj) (by intro u hu; obtain ⟨_, _, rfl⟩ := List.mem_map.1 hu; rfl) (by simp only [maxLen]; omega) (by omega) hB
  refine ⟨v', w', hr, ?_, h3⟩
  unfold OwnS; rw [List.length_append, US, List.map_append]; exact h2
theorem wpList_appS {S E : Nat} (hS : Tryd.prog.underlying S = some (.slice E)) (iE : (Tryd.prog.info? E).map (fun i => (i.zero, i.size, i.bytes)) = some (some (.slice none 0 0), 1, 24)) (B : Nat) (w : World) {ops : Array Oper} {rest : List Oper} {o : Oper} {a : Act} {Q : Exit → Act → World → Prop} (hgd : o.guard = none) (s x : Operand)
    (hop : o.op = .call { callee := .builtin .append, args := #[s, x], argTypes := #[S, S] }) (l : List Sl) (y : Sl) (v : Value) (hs : a.eval s = v) (hown : OwnS E B w v l) (hB : B ≤ w.heap.size) (ad : Addr) (c : Nat) (hx : a.eval x = .slice (some ad) 1 c)
    (hnews : w.cell? ad = some (.slice y.1 y.2.1 y.2.2)) (hlen : l.length + 1 ≤ 5864062014805)
    (hK : ∀ v' w', OwnS E B w' v' (l ++ [y]) → w.grownBy w' v.ownBlock → wpList Tryd.prog ops Q rest (a.put o.dst v') w') :
    wpList Tryd.prog ops Q (o :: rest) a w := by
  refine wpList_plain hgd fun K hK' => ?_
  obtain ⟨v', w', hrun, r1, r2⟩ := appS_run hS iE B w o.type v l y hown hB ad c hnews hlen
  unfold Oper.wp
  simp [execOp, hop, resolve, invoke, builtin, hs, hx, hrun, Result.andThen]
  exact hK' _ _ (hK v' w' r1 r2)
theorem newsS (E : Nat) (W : World) (x : Sl) : (W.alloc (Obj.cells #[.slice x.1 x.2.1 x.2.2] E)).cell? ⟨W.heap.size, 0, none⟩ = some (.slice x.1 x.2.1 x.2.2) := by
  rw [cell_of_row _ _ _ _ E (0, 0) (heap_alloc_new W _)]; rfl
/-- A row of numbers within, z cells an element, in a block of its own kind. -/
structure Itm (z I B : Nat) (w : World) (x : Sl) (l : List Nat) : Prop where
  n : x.2.1 * z = l.length
  c : x.2.1 ≤ x.2.2
  rd : RdF w x.1 l
  ty : ∀ p, x.1 = some p → B ≤ p.block ∧ ∃ cur, w.heap[p.block]? = some (.cells cur I (0, 0))
theorem RdF.same {w w' : World} {a : Option Addr} {l : List Nat} (h : RdF w a l) (k : ∀ p, a = some p → w'.heap[p.block]? = w.heap[p.block]?) : RdF w' a l := by
  intro j hj
  obtain ⟨b, o, e, hc⟩ := h j hj
  refine ⟨b, o, e, ?_⟩
  have := k _ e
  rw [World.cell?_of_block (a := ⟨b, o + j, none⟩) this]
  exact hc
theorem Itm.same {z I B : Nat} {w w' : World} {x : Sl} {l : List Nat} (h : Itm z I B w x l) (k : ∀ b cur, B ≤ b → w.heap[b]? = some (.cells cur I (0, 0)) → w'.heap[b]? = w.heap[b]?) : Itm z I B w' x l := by
  have hk : ∀ p, x.1 = some p → w'.heap[p.block]? = w.heap[p.block]? := fun p hp => by obtain ⟨hb, cur, hh⟩ := h.ty p hp; exact k _ cur hb hh
  refine ⟨h.n, h.c, h.rd.same hk, fun p hp => ?_⟩
  obtain ⟨hb, cur, hh⟩ := h.ty p hp
  exact ⟨hb, cur, by rw [hk p hp]; exact hh⟩
theorem Itm.keep {z I B : Nat} {w w' : World} {x : Sl} {l : List Nat} (h : Itm z I B w x l) (k : Keep w w') : Itm z I B w' x l :=
  h.same (fun b cur _ hh => k.block b (Array.getElem?_eq_some_iff.1 hh).1)
/-- Rows of numbers that can be read, z cells an element. -/
def RdS (z : Nat) (w : World) (a : Option Addr) (V : List (List Nat)) : Prop :=
  ∀ j, j < V.length → ∃ b o va n vc, a = some ⟨b, o, none⟩ ∧ w.cell? ⟨b, o + j, none⟩ = some (.slice va n vc) ∧ n * z = (V.getD j []).length ∧ n ≤ vc ∧ RdF w va (V.getD j []) ∧ (V.getD j []).length ≤ 17592186044416
theorem RdS.keep {z : Nat} {w w' : World} {a : Option Addr} {V : List (List Nat)} (h : RdS z w a V) (k : Keep w w') : RdS z w' a V := by
  intro j hj
  obtain ⟨b, o, va, n, vc, e, h1, h2, h3, h4, h5⟩ := h j hj
  exact ⟨b, o, va, n, vc, e, k.cell h1, h2, h3, h4.keep k, h5⟩
/-- What the making of such rows holds between two rounds. -/
structure SI (z E I : Nat) (W0 : World) (K : List Sl) (V : List (List Nat)) (v : Value) (wr : World) : Prop where
  k0 : Keep W0 wr
  own : OwnS E W0.heap.size wr v K
  kl : K.length = V.length
  ok : ∀ i, i < V.length → Itm z I W0.heap.size wr (K.getD i s0) (V.getD i [])
theorem SI.nil (z E I : Nat) (W : World) : SI z E I W [] [] (.slice none 0 0) W := ⟨Keep.refl W, OwnS.nil _ _ _, rfl, fun i hi => by simp at hi⟩
theorem getD_snoc {α : Type} (l : List α) (x d : α) (j : Nat) : (l ++ [x]).getD j d = if j = l.length then x else l.getD j d := by
  by_cases h : j < l.length
  · rw [if_neg (by omega)]; simp [List.getD, List.getElem?_append, h]
  · by_cases h2 : j = l.length
    · subst h2; simp [List.getD]
    · rw [if_neg h2]; simp [List.getD, List.getElem?_append, h, show ¬ j - l.length = 0 by omega]
theorem SI.next {z E I : Nat} (hEI : E ≠ I) {W0 : World} {K : List Sl} {V : List (List Nat)} {v v7 : Value} {wr W w7 : World} (h : SI z E I W0 K V v wr) (k : Keep wr W) {x : Sl} {l : List Nat} (hx : Itm z I W0.heap.size W x l) (hO : OwnS E W0.heap.size w7 v7 (K ++ [x])) (g7 : W.grownBy w7 v.ownBlock) : SI z E I W0 (K ++ [x]) (V ++ [l]) v7 w7 := by
  have hrow : ∀ (b : Nat) (c : Array Value), W0.heap.size ≤ b → W.heap[b]? = some (Obj.cells c I (0, 0)) → w7.heap[b]? = W.heap[b]? := by
    intro b c _ hb
    refine g7.block b (Array.getElem?_eq_some_iff.1 hb).1 ?_
    intro e
    obtain ⟨-, cur, hc⟩ := own_block (own_keep h.own k) e.symm
    rw [hb] at hc
    simp at hc
    exact hEI hc.2.symm
  have hle := h.k0.le
  have hkl := k.le
  refine ⟨Below.grown (h.k0.trans k) g7 (by omega) (fun b hb => (own_block h.own hb).1), hO, by rw [List.length_append, List.length_append, h.kl]; rfl, ?_⟩
  intro i hi
  rw [getD_snoc, getD_snoc, h.kl]
  by_cases e : i = V.length
  · rw [if_pos e, if_pos e]
    exact hx.same hrow
  · rw [if_neg e, if_neg e]
    rw [List.length_append] at hi
    simp only [List.length_cons, List.length_nil] at hi
    exact ((h.ok i (by omega)).keep k).same hrow
theorem SI.rd {z E I : Nat} {W0 : World} {K : List Sl} {V : List (List Nat)} {v : Value} {wr : World} (h : SI z E I W0 K V v wr) (hb : ∀ i, i < V.length → (V.getD i []).length ≤ 17592186044416) : ∃ a c, v = .slice a V.length c ∧ V.length ≤ c ∧ RdS z wr a V := by
  obtain ⟨a, c, hv, hc, hr⟩ := h.own.shape
  refine ⟨a, c, by rw [hv, h.kl], by rw [← h.kl]; exact hc, ?_⟩
  intro i hi
  obtain ⟨b, o, e, hcell⟩ := hr i (by rw [h.kl]; exact hi)
  have hI := h.ok i hi
  exact ⟨b, o, _, _, _, e, hcell, hI.n, hI.c, hI.rd, hb i hi⟩
end Go.Proofs.YtieheijcfiijmaaDoor
