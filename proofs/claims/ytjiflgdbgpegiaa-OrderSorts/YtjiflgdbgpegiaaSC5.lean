import Derived.Test.YtjiflgdbgpegiaaSC4
import Derived.Deep.RegionLaw
import Derived.Shelf.Abstract
import Derived.Below
import Derived.BigRegion
set_option linter.unusedVariables false
set_option linter.unusedSimpArgs false
namespace Go.Proofs.Ytjiflgdbgpegiaa
open Go.RowKit Go.Shelf
theorem i22 : (Try.prog.info? 22).map (fun i => (i.zero, i.size, i.bytes)) = some (some (.int .u64 0), 1, 8) := by kernel_rfl
/-- append of one element to a row of one's own, of numbers or of bits. -/
theorem appG_run {S E : Nat} {zv : Value} (hS : Try.prog.underlying S = some (.slice E)) (iE : (Try.prog.info? E).map (fun i => (i.zero, i.size, i.bytes)) = some (some zv, 1, 8)) (hzc : zv.cells.size = 1) (B : Nat) (w : World) (ty : Nat) (v : Value) (n : Nat) (xs ys : List Value) (hown : w.ownsRow B E 1 v n xs) (hB : B ≤ w.heap.size) (ad : Addr) (c : Nat) (hl : ys.length = 1) (hnews : ∀ j u, ys[j]? = some u → w.cell? (ad.add j) = some u) (h1 : ∀ u ∈ ys, u.oneCell' = true) (hn : n + 1 ≤ 17592186044416) :
    ∃ v' w', (Builtin.append_ #[S, S] ty #[v, .slice (some ad) 1 c]).run Try.prog w = .ok v' w' ∧ w'.ownsRow B E 1 v' (n + 1) (xs ++ ys) ∧ w.grownBy w' v.ownBlock := by
  obtain ⟨i0, hi, hz0, hz1, hz2⟩ := info_parts iE
  obtain ⟨v', w', hr, h2, h3, -⟩ := run_append_own (P := Try.prog) w B S ty E i0 _ 1 8 hS hi hz0 hz1 hz2 hzc (by omega) v _ _ hown ad 1 c ys (by rw [hl, Nat.one_mul]) hnews h1 (by simp only [maxLen]; omega) (by omega) hB
  exact ⟨v', w', hr, h2, h3⟩
theorem wpList_appG {S E : Nat} {zv : Value} (hS : Try.prog.underlying S = some (.slice E)) (iE : (Try.prog.info? E).map (fun i => (i.zero, i.size, i.bytes)) = some (some zv, 1, 8)) (hzc : zv.cells.size = 1) (B : Nat) (w : World) {ops : Array Oper} {rest : List Oper} {o : Oper} {a : Act} {Q : Exit → Act → World → Prop} (hgd : o.guard = none) (s x : Operand)
    (hop : o.op = .call { callee := .builtin .append, args := #[s, x], argTypes := #[S, S] }) (n : Nat) (xs ys : List Value) (v : Value) (hs : a.eval s = v) (hown : w.ownsRow B E 1 v n xs) (hB : B ≤ w.heap.size) (ad : Addr) (c : Nat) (hx : a.eval x = .slice (some ad) 1 c) (hl : ys.length = 1)
    (hnews : ∀ j u, ys[j]? = some u → w.cell? (ad.add j) = some u) (h1 : ∀ u ∈ ys, u.oneCell' = true) (hn : n + 1 ≤ 17592186044416)
    (hK : ∀ v' w', w'.ownsRow B E 1 v' (n + 1) (xs ++ ys) → w.grownBy w' v.ownBlock → wpList Try.prog ops Q rest (a.put o.dst v') w') :
    wpList Try.prog ops Q (o :: rest) a w := by
  refine wpList_plain hgd fun K hK' => ?_
  obtain ⟨v', w', hrun, r1, r2⟩ := appG_run hS iE hzc B w o.type v n xs ys hown hB ad c hl hnews h1 hn
  unfold Oper.wp
  simp [execOp, hop, resolve, invoke, builtin, hs, hx, hrun, Result.andThen]
  exact hK' _ _ (hK v' w' r1 r2)
theorem own_block {B e s n : Nat} {w : World} {v : Value} {l : List Value} (h : w.ownsRow B e s v n l) {b : Nat} (hb : v.ownBlock = some b) : B ≤ b ∧ ∃ cur, w.heap[b]? = some (.cells cur e (0, 0)) := by
  rcases h.2 with ⟨h1, _⟩ | ⟨g, cap, cur, hv, hg, hh, r⟩
  · rw [h1] at hb; cases hb
  · rw [hv] at hb
    have hb : some g = some b := hb
    simp only [Option.some.injEq] at hb
    subst hb
    exact ⟨hg, cur, hh⟩
theorem Keep.at {w w' : World} (k : Keep w w') {g : Nat} {o : Obj} (h : w.heap[g]? = some o) : w'.heap[g]? = some o := by rw [k.block g (Array.getElem?_eq_some_iff.1 h).1]; exact h
theorem Keep.le {a b : World} (h : Keep a b) : a.heap.size ≤ b.heap.size := h.size
theorem own_keep {B e s n : Nat} {w w' : World} {v : Value} {l : List Value} (h : w.ownsRow B e s v n l) (k : Keep w w') : w'.ownsRow B e s v n l := by
  refine ⟨h.1, ?_⟩
  rcases h.2 with h2 | ⟨g, cap, cur, hv, hg, hh, r⟩
  · exact .inl h2
  · exact .inr ⟨g, cap, cur, hv, hg, k.at hh, r⟩
theorem own_nil (E z B : Nat) (w : World) : w.ownsRow B E z (.slice none 0 0) 0 [] := ⟨by simp, .inl ⟨rfl, rfl⟩⟩
/-- The world behind an append keeps what lay below the row's base. -/
theorem keep_grown {W w w' : World} {e s n : Nat} {v : Value} {l : List Value} (k : Keep W w) (h : w.ownsRow W.heap.size e s v n l) (g : w.grownBy w' v.ownBlock) : Keep W w' :=
  Below.grown k g k.le (fun b hb => (own_block h hb).1)
theorem newsF (W : World) (x : Nat) : ∀ j u, (UF [x])[j]? = some u → (W.alloc (Obj.cells #[.float .f64 x] 23)).cell? ((⟨W.heap.size, 0, none⟩ : Addr).add j) = some u := by
  intro j u hj
  match j, hj with
  | 0, hj => simp [UF] at hj; subst hj; show (W.alloc _).cell? ⟨W.heap.size, 0, none⟩ = _; rw [cell_of_row _ _ _ _ 23 (0, 0) (heap_alloc_new W _)]; rfl
  | j + 1, hj => simp [UF] at hj
/-- Bits as cells. -/
def UU (l : List Nat) : List Value := l.map fun x => Value.int .u64 ((x : Nat) : Int)
theorem UU_one (l : List Nat) : ∀ u ∈ UU l, u.oneCell' = true := by intro u hu; obtain ⟨_, _, rfl⟩ := List.mem_map.1 hu; rfl
theorem newsU (W : World) (x : Nat) : ∀ j u, (UU [x])[j]? = some u → (W.alloc (Obj.cells #[.int .u64 (x : Nat)] 22)).cell? ((⟨W.heap.size, 0, none⟩ : Addr).add j) = some u := by
  intro j u hj
  match j, hj with
  | 0, hj => simp [UU] at hj; subst hj; show (W.alloc _).cell? ⟨W.heap.size, 0, none⟩ = _; rw [cell_of_row _ _ _ _ 22 (0, 0) (heap_alloc_new W _)]; rfl
  | j + 1, hj => simp [UU] at hj
end Go.Proofs.Ytjiflgdbgpegiaa
