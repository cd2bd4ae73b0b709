import Derived.Test.YtmhgpgdekaeegaaDoorProg
import Derived.Test.YtmhgpgdekaeegaaDoorOSD2
import Ieee.Arith
import Derived.WalkKit
import Derived.WalkSpells
import Derived.WalkLawsBesides
import Derived.Deep.Draws
import Derived.Deep.QuietTactic
import Derived.BigQuiet
import Derived.Laws.Externs
import Derived.RegionTactic
import Derived.Laws.Rows
import Derived.Laws.CopyOwn
import Derived.Deep.RegionLaw
import Derived.Shelf.Abstract
import Derived.Below
import Derived.BigRegion
import Derived.Maps.OwnSet
import Derived.Maps.RangeWalk
set_option linter.unusedVariables false
set_option linter.unusedSimpArgs false
namespace Go.Proofs.YtmhgpgdekaeegaaDoor
open Go.RowKit Go.Shelf
/-- append of some elements to a row of one's own. -/
theorem wpList_appM {S E : Nat} {zv : Value} (hS : Tryd.prog.underlying S = some (.slice E)) (iE : (Tryd.prog.info? E).map (fun i => (i.zero, i.size, i.bytes)) = some (some zv, 1, 8)) (hzc : zv.cells.size = 1) (B : Nat) (w : World) {ops : Array Oper} {rest : List Oper} {o : Oper} {a : Act} {Q : Exit → Act → World → Prop} (hgd : o.guard = none) (s x : Operand)
    (hop : o.op = .call { callee := .builtin .append, args := #[s, x], argTypes := #[S, S] }) (n m : Nat) (xs ys : List Value) (v : Value) (hs : a.eval s = v) (hown : w.ownsRow B E 1 v n xs) (hB : B ≤ w.heap.size) (ad : Addr) (c : Nat) (hx : a.eval x = .slice (some ad) m c) (hl : ys.length = m)
    (hnews : ∀ j u, ys[j]? = some u → w.cell? (ad.add j) = some u) (h1 : ∀ u ∈ ys, u.oneCell' = true) (hn : n + m ≤ 17592186044416)
    (hK : ∀ v' w', w'.ownsRow B E 1 v' (n + m) (xs ++ ys) → w.grownBy w' v.ownBlock → wpList Tryd.prog ops Q rest (a.put o.dst v') w') :
    wpList Tryd.prog ops Q (o :: rest) a w := by
  refine wpList_plain hgd fun K hK' => ?_
  obtain ⟨i0, hi, hz0, hz1, hz2⟩ := info_parts iE
  obtain ⟨v', w', hrun, r1, r2, -⟩ := run_append_own (P := Tryd.prog) w B S o.type E i0 _ 1 8 hS hi hz0 hz1 hz2 hzc (by omega) v _ _ hown ad m c ys (by rw [hl, Nat.mul_one]) hnews h1 (by simp only [maxLen]; omega) (by omega) hB
  unfold Oper.wp
  simp [execOp, hop, resolve, invoke, builtin, hs, hx, hrun, Result.andThen]
  exact hK' _ _ (hK v' w' r1 r2)
theorem newsF2 (W : World) (x y : Nat) : ∀ j u, (UF [x, y])[j]? = some u → (W.alloc (Obj.cells #[.float .f64 x, .float .f64 y] 23)).cell? ((⟨W.heap.size, 0, none⟩ : Addr).add j) = some u := by
  intro j u hj
  match j, hj with
  | 0, hj => simp [UF] at hj; subst hj; show (W.alloc _).cell? ⟨W.heap.size, 0, none⟩ = _; rw [cell_of_row _ _ _ _ 23 (0, 0) (heap_alloc_new W _)]; rfl
  | 1, hj => simp [UF] at hj; subst hj; show (W.alloc _).cell? ⟨W.heap.size, 0 + 1, none⟩ = _; rw [cell_of_row _ _ _ _ 23 (0, 0) (heap_alloc_new W _)]; rfl
  | j + 2, hj => simp [UF] at hj
theorem Alk.self {x : Nat} (h : x < 18446744073709551616) : Alk x x := by
  by_cases q : isNaN x
  · exact ⟨h, .inr ⟨q, q⟩⟩
  · exact ⟨h, .inl ⟨rfl, q⟩⟩
/-- A row of numbers of one's own, the first of them. -/
theorem own_arr {w : World} {B n g cap : Nat} {l r : List Nat} (h : w.ownsRow B 23 1 (.slice (some ⟨g, 0, none⟩) n cap) n (UF (l ++ r))) : Arr w g l := by
  rcases h.2 with ⟨h1, _⟩ | ⟨g', cap', cur, hv, hg, hh, r1, r2, r3, r4⟩
  · cases h1
  · injection hv with e1 e2 e3
    injection e1 with e1
    injection e1 with e1
    subst e1
    refine ⟨cur, hh, ?_⟩
    have hn := h.1
    rw [Nat.mul_one, UF_length, List.length_append] at hn
    rw [Nat.mul_one] at r4
    have : (cur.toList.take n).take l.length = (UF (l ++ r)).take l.length := by rw [r4]
    rw [List.take_take, Nat.min_eq_left (by omega)] at this
    rw [this]
    simp [UF, List.take_append_of_le_length]
theorem own_rdv {w : World} {B n g cap : Nat} {l : List Nat} (h : w.ownsRow B 23 1 (.slice (some ⟨g, 0, none⟩) n cap) n (UF l)) : RdV w (some ⟨g, 0, none⟩) l := (own_arr (r := []) (by rw [List.append_nil]; exact h)).rdv
theorem own_cap {w : World} {B E n g cap : Nat} {xs : List Value} (h : w.ownsRow B E 1 (.slice (some ⟨g, 0, none⟩) n cap) n xs) : n ≤ cap := by
  rcases h.2 with ⟨q, _⟩ | ⟨_, _, _, hv, _, _, q, _⟩
  · cases q
  · injection hv with _ _ hv
    omega
end Go.Proofs.YtmhgpgdekaeegaaDoor
