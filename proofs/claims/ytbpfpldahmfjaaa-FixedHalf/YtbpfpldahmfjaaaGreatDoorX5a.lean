import Derived.Test.YtbpfpldahmfjaaaGreatDoorX2
import Derived.Test.YtbpfpldahmfjaaaGreatDoorUA6
import Derived.Lib.SliceRun
import Derived.Deep.RegionLaw
import Derived.Shelf.Abstract
import Derived.Below
import Derived.BigRegion
import Derived.Deep.CutRange
import Derived.Deep.LoopGhost
set_option linter.unusedVariables false
set_option linter.unusedSimpArgs false
namespace Go.Proofs.YtbpfpldahmfjaaaGreatDoor.Su
open Go.RowKit
/-- A list turned. -/
def rot (l : List Int) (t : Nat) : List Int := (List.range l.length).map fun i => l.getD ((i + t) % l.length) 0
theorem rot_eq (l : List Int) (t : Nat) (ht : t < l.length) : rot l t = l.drop t ++ l.take t := by
  apply List.ext_getElem?
  intro i
  unfold rot
  rw [List.getElem?_map]
  by_cases hi : i < l.length
  · rw [List.getElem?_range hi]
    simp only [Option.map_some]
    by_cases h1 : i + t < l.length
    · rw [Nat.mod_eq_of_lt h1, List.getElem?_append_left (by rw [List.length_drop]; omega), List.getElem?_drop]
      rw [List.getElem?_eq_getElem (by omega)]
      have e2 : t + i < l.length := by omega
      rw [Nat.add_comm i t]
      simp [List.getD, List.getElem?_eq_getElem e2]
    · have e : (i + t) % l.length = i + t - l.length := by
        rw [Nat.mod_eq_sub_mod (by omega), Nat.mod_eq_of_lt (by omega)]
      rw [e, List.getElem?_append_right (by rw [List.length_drop]; omega), List.length_drop, List.getElem?_take, if_pos (by omega)]
      rw [show i - (l.length - t) = i + t - l.length by omega]
      simp [List.getD, List.getElem?_eq_getElem (show i + t - l.length < l.length by omega)]
  · rw [List.getElem?_eq_none (by simpa using hi)]
    rw [List.getElem?_eq_none (by rw [List.length_append, List.length_drop, List.length_take]; omega)]
    rfl
theorem rot_sum (l : List Int) (t : Nat) (ht : t < l.length) : (rot l t).sum = l.sum := by
  rw [rot_eq l t ht, List.sum_append, Int.add_comm, ← List.sum_append, List.take_append_drop]
theorem rot_len (l : List Int) (t : Nat) : (rot l t).length = l.length := by unfold rot; simp
theorem rot_i64 {l : List Int} (h : I64 l) (t : Nat) : I64 (rot l t) := by
  intro x hx
  unfold rot at hx
  obtain ⟨i, -, rfl⟩ := List.mem_map.1 hx
  exact I64_getD h _
theorem rot_take (l : List Int) (t k : Nat) (h : k < l.length) : (rot l t).take (k + 1) = (rot l t).take k ++ [l.getD ((k + t) % l.length) 0] := by
  have hk : k < (rot l t).length := by rw [rot_len]; exact h
  rw [List.take_succ_eq_append_getElem hk]
  congr 1
  unfold rot
  simp
theorem Keep.cell {a b : World} (h : Keep a b) {p : Addr} {v : Value} (hc : a.cell? p = some v) : b.cell? p = some v :=
  (Below.cell h (World.block_lt_of_cell? a p hc)).trans hc
theorem Keep.le {a b : World} (h : Keep a b) : a.heap.size ≤ b.heap.size := h.size
theorem Rd.nil (w : World) (a : Option Addr) : Rd w a [] := by intro j hj; simp at hj
theorem Rd.keep {w w' : World} {a : Option Addr} {l : List Int} (h : Rd w a l) (k : Keep w w') : Rd w' a l := by
  intro j hj
  obtain ⟨b, o, e, c⟩ := h j hj
  exact ⟨b, o, e, k.cell c⟩
theorem Rd.take {w : World} {a : Option Addr} {l : List Int} (h : Rd w a l) (k : Nat) : Rd w a (l.take k) := by
  intro j hj
  rw [List.length_take] at hj
  obtain ⟨b, o, e, hc⟩ := h j (by omega)
  refine ⟨b, o, e, ?_⟩
  rw [hc]
  congr 2
  simp [List.getD, List.getElem?_take, show j < k by omega]
end Go.Proofs.YtbpfpldahmfjaaaGreatDoor.Su
set_option linter.unusedVariables false
set_option linter.unusedSimpArgs false
namespace Go.Proofs.YtbpfpldahmfjaaaGreatDoor.Su
open Go.RowKit Go.Shelf
/-- append of one element to a row of one's own. -/
theorem appG_run {S E : Nat} {zv : Value} (hS : Tryz.prog.underlying S = some (.slice E)) (iE : (Tryz.prog.info? E).map (fun i => (i.zero, i.size, i.bytes)) = some (some zv, 1, 8)) (hzc : zv.cells.size = 1) (B : Nat) (w : World) (ty : Nat) (v : Value) (n : Nat) (xs ys : List Value) (hown : w.ownsRow B E 1 v n xs) (hB : B ≤ w.heap.size) (ad : Addr) (c : Nat) (hl : ys.length = 1) (hnews : ∀ j u, ys[j]? = some u → w.cell? (ad.add j) = some u) (h1 : ∀ u ∈ ys, u.oneCell' = true) (hn : n + 1 ≤ 17592186044416) :
    ∃ v' w', (Builtin.append_ #[S, S] ty #[v, .slice (some ad) 1 c]).run Tryz.prog w = .ok v' w' ∧ w'.ownsRow B E 1 v' (n + 1) (xs ++ ys) ∧ w.grownBy w' v.ownBlock := by
  obtain ⟨i0, hi, hz0, hz1, hz2⟩ := info_parts iE
  obtain ⟨v', w', hr, h2, h3, -⟩ := run_append_own (P := Tryz.prog) w B S ty E i0 _ 1 8 hS hi hz0 hz1 hz2 hzc (by omega) v _ _ hown ad 1 c ys (by rw [hl, Nat.one_mul]) hnews h1 (by simp only [maxLen]; omega) (by omega) hB
  exact ⟨v', w', hr, h2, h3⟩
theorem wpList_appG {S E : Nat} {zv : Value} (hS : Tryz.prog.underlying S = some (.slice E)) (iE : (Tryz.prog.info? E).map (fun i => (i.zero, i.size, i.bytes)) = some (some zv, 1, 8)) (hzc : zv.cells.size = 1) (B : Nat) (w : World) {ops : Array Oper} {rest : List Oper} {o : Oper} {a : Act} {Q : Exit → Act → World → Prop} (hgd : o.guard = none) (s x : Operand)
    (hop : o.op = .call { callee := .builtin .append, args := #[s, x], argTypes := #[S, S] }) (n : Nat) (xs ys : List Value) (v : Value) (hs : a.eval s = v) (hown : w.ownsRow B E 1 v n xs) (hB : B ≤ w.heap.size) (ad : Addr) (c : Nat) (hx : a.eval x = .slice (some ad) 1 c) (hl : ys.length = 1)
    (hnews : ∀ j u, ys[j]? = some u → w.cell? (ad.add j) = some u) (h1 : ∀ u ∈ ys, u.oneCell' = true) (hn : n + 1 ≤ 17592186044416)
    (hK : ∀ v' w', w'.ownsRow B E 1 v' (n + 1) (xs ++ ys) → w.grownBy w' v.ownBlock → wpList Tryz.prog ops Q rest (a.put o.dst v') w') :
    wpList Tryz.prog ops Q (o :: rest) a w := by
  refine wpList_plain hgd fun K hK' => ?_
  obtain ⟨v', w', hrun, r1, r2⟩ := appG_run hS iE hzc B w o.type v n xs ys hown hB ad c hl hnews h1 hn
  unfold Oper.wp
  simp [execOp, hop, resolve, invoke, builtin, hs, hx, hrun, Result.andThen]
  exact hK' _ _ (hK v' w' r1 r2)
theorem own_block {B e s n : Nat} {w : World} {v : Value} {l : List Value} (h : w.ownsRow B e s v n l) {b : Nat} (hb : v.ownBlock = some b) : B ≤ b ∧ ∃ cur, w.heap[b]? = some (.cells cur e (0, 0)) := by
  rcases h.2 with ⟨h1, _⟩ | ⟨g, cap, cur, hv, hg, hh, r⟩
  · rw [h1] at hb; cases hb
  · rw [hv] at hb
    have hb : some g = some b := hb
    simp only [Option.some.injEq] at hb
    subst hb
    exact ⟨hg, cur, hh⟩
theorem Keep.at {w w' : World} (k : Keep w w') {g : Nat} {o : Obj} (h : w.heap[g]? = some o) : w'.heap[g]? = some o := by rw [k.block g (Array.getElem?_eq_some_iff.1 h).1]; exact h
theorem own_keep {B e s n : Nat} {w w' : World} {v : Value} {l : List Value} (h : w.ownsRow B e s v n l) (k : Keep w w') : w'.ownsRow B e s v n l := by
  refine ⟨h.1, ?_⟩
  rcases h.2 with h2 | ⟨g, cap, cur, hv, hg, hh, r⟩
  · exact .inl h2
  · exact .inr ⟨g, cap, cur, hv, hg, k.at hh, r⟩
theorem own_nil (E z B : Nat) (w : World) : w.ownsRow B E z (.slice none 0 0) 0 [] := ⟨by simp, .inl ⟨rfl, rfl⟩⟩
theorem keep_grown {W w w' : World} {e s n : Nat} {v : Value} {l : List Value} (k : Keep W w) (h : w.ownsRow W.heap.size e s v n l) (g : w.grownBy w' v.ownBlock) : Keep W w' :=
  Below.grown k g (Keep.le k) (fun b hb => (own_block h hb).1)
theorem i2x : (Tryz.prog.info? 2).map (fun i => (i.zero, i.size, i.bytes)) = some (some (.int .i64 0), 1, 8) := by kernel_rfl
/-- Numbers as cells. -/
def UZ (l : List Int) : List Value := l.map fun x => Value.int .i64 x
theorem UZ_one (l : List Int) : ∀ u ∈ UZ l, u.oneCell' = true := by intro u hu; obtain ⟨_, _, rfl⟩ := List.mem_map.1 hu; rfl
theorem newsZ (W : World) (x : Int) : ∀ j u, (UZ [x])[j]? = some u → (W.alloc (Obj.cells #[.int .i64 x] 2)).cell? ((⟨W.heap.size, 0, none⟩ : Addr).add j) = some u := by
  intro j u hj
  match j, hj with
  | 0, hj => simp [UZ] at hj; subst hj; show (W.alloc _).cell? ⟨W.heap.size, 0, none⟩ = _; rw [cell_of_row _ _ _ _ 2 (0, 0) (heap_alloc_new W _)]; rfl
  | j + 1, hj => simp [UZ] at hj
/-- A row of one's own can be read. -/
theorem own_rd {B n : Nat} {w : World} {v : Value} {l : List Int} (hn : l.length = n) (h : w.ownsRow B 2 1 v n (UZ l)) : ∃ a c, v = .slice a n c ∧ Rd w a l := by
  rcases h.2 with ⟨h1, h2⟩ | ⟨g, cap, cur, hv, hg, hh, r1, r2, r3, r4⟩
  · refine ⟨none, 0, by rw [h1, h2], fun i hi => by omega⟩
  · refine ⟨some ⟨g, 0, none⟩, cap, hv, fun i hi => ⟨g, 0, rfl, ?_⟩⟩
    rw [Nat.mul_one] at r4
    have e : cur.toList[i]? = (UZ l)[i]? := by rw [← r4, List.getElem?_take, if_pos (by omega)]
    rw [Nat.zero_add, cell_of_row w g i cur 2 (0, 0) hh]
    have : cur[i]? = cur.toList[i]? := by simp
    rw [this, e]
    simp [UZ, List.getD, hi]
end Go.Proofs.YtbpfpldahmfjaaaGreatDoor.Su
set_option linter.unusedVariables false
set_option linter.unusedSimpArgs false
namespace Go.Proofs.YtbpfpldahmfjaaaGreatDoor.Su
open Go.RowKit Go.Shelf
set_option maxRecDepth 100000 in
theorem run_head (a : Option Addr) (n c k : Nat) (hk : k ≤ c) : ∃ a', (∀ wx, (Instr.slice 28 (.slice a n c) none (some (.int .i64 (k : Nat))) none).run Tryz.prog wx = .ok (.slice a' k c) wx) ∧ ∀ wx l, Rd wx a l → Rd wx a' (l.take k) := by
  have e2 : ∀ wx, (sizeOf (Tryz.prog.elem 28)).run Tryz.prog wx = .ok 1 wx := fun wx => by kernel_rfl
  cases a with
  | none =>
    refine ⟨none, fun wx => ?_, fun wx l h => h.take k⟩
    rw [run_slice_h (P := Tryz.prog) wx 28 none n c Tryz.underlying28 .i64 k (by omega) (by omega), e2]
    simp [Result.andThen, sliced]
  | some p =>
    refine ⟨some p, fun wx => ?_, fun wx l h => h.take k⟩
    rw [run_slice_h (P := Tryz.prog) wx 28 (some p) n c Tryz.underlying28 .i64 k (by omega) (by omega), e2]
    simp [Result.andThen, sliced, Addr.add]
set_option maxRecDepth 100000 in
theorem run_tail (a : Option Addr) (n c k : Nat) (hk : k ≤ n) (hn : n ≤ c) : ∃ a', (∀ wx, (Instr.slice 28 (.slice a n c) (some (.int .i64 (k : Nat))) none none).run Tryz.prog wx = .ok (.slice a' (n - k) (c - k)) wx) ∧ ∀ wx l, l.length = n → Rd wx a l → Rd wx a' (l.drop k) := by
  have e2 : ∀ wx, (sizeOf (Tryz.prog.elem 28)).run Tryz.prog wx = .ok 1 wx := fun wx => by kernel_rfl
  cases a with
  | none =>
    refine ⟨none, fun wx => ?_, fun wx l hl h => ?_⟩
    · rw [run_slice_l (P := Tryz.prog) wx 28 none n c Tryz.underlying28 .i64 k (by omega) (by omega), e2]
      simp [Result.andThen, sliced]
    · intro j hj
      rw [List.length_drop] at hj
      obtain ⟨b, o, e, -⟩ := h j (by omega)
      cases e
  | some p =>
    by_cases hc : c = k
    · refine ⟨some p, fun wx => ?_, fun wx l hl h => ?_⟩
      · rw [run_slice_l (P := Tryz.prog) wx 28 (some p) n c Tryz.underlying28 .i64 k (by omega) (by omega), e2]
        simp [Result.andThen, sliced, Addr.add, hc]
      · intro j hj
        rw [List.length_drop] at hj
        omega
    · refine ⟨some (p.add k), fun wx => ?_, fun wx l hl h => ?_⟩
      · rw [run_slice_l (P := Tryz.prog) wx 28 (some p) n c Tryz.underlying28 .i64 k (by omega) (by omega), e2]
        simp [Result.andThen, sliced, hc]
      · intro j hj
        rw [List.length_drop] at hj
        obtain ⟨b, o, e, hcell⟩ := h (k + j) (by omega)
        obtain rfl : p = ⟨b, o, none⟩ := Option.some.inj e
        refine ⟨b, o + k, by simp [Addr.add], ?_⟩
        rw [Nat.add_assoc, hcell]
        simp [List.getD, List.getElem?_drop]
end Go.Proofs.YtbpfpldahmfjaaaGreatDoor.Su
