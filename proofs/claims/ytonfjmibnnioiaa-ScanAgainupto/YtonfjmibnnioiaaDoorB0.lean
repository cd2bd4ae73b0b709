import Derived.Test.YtonfjmibnnioiaaDoorM2
import Derived.Test.YtonfjmibnnioiaaDoorProg
import Derived.WalkKit
import Derived.WalkSpells
import Derived.WalkLawsBesides
import Derived.Deep.Draws
import Derived.Deep.QuietTactic
import Derived.Laws.Externs
import Derived.Shelf.Abstract
import Derived.Below
import Derived.Deep.RegionLaw
import Derived.Laws.CopyOwn
import Derived.BigRegion
import Derived.BigQuiet
import Derived.Deep.RegionHeld3
set_option linter.unusedVariables false
set_option linter.unusedSimpArgs false
namespace Go.Proofs.YtonfjmibnnioiaaDoor
open Go.RowKit Go.Shelf
/-- Kept from simp. -/
def Hid (p : Prop) : Prop := p
theorem Hid.out {p : Prop} (h : Hid p) : p := h
/-- Nothing that was there has turned. -/
def Keep (w w' : World) : Prop := Below w.heap.size w w'
theorem Keep.refl (w : World) : Keep w w := Below.refl _ _
theorem Keep.trans {a b c : World} (h : Keep a b) (k : Keep b c) : Keep a c := Below.trans h (Below.mono k h.size)
theorem Keep.drewN {a b : World} (h : Keep a b) (q : Nat) : Keep a (b.drewN q) := ⟨h.os, h.tape, h.output, h.size, h.block⟩
theorem Keep.drew {a b : World} (h : Keep a b) : Keep a b.drew := Below.drew h
theorem Keep.alloc {a b : World} (h : Keep a b) (o : Obj) : Keep a (b.alloc o) := Below.alloc h h.size o
theorem Keep.setCell {a b : World} (h : Keep a b) {p : Addr} (hp : a.heap.size ≤ p.block) (u : Value) : Keep a (b.setCell p u) := Below.setCell h hp u
theorem Keep.cell {a b : World} (h : Keep a b) {p : Addr} {v : Value} (hc : a.cell? p = some v) : b.cell? p = some v :=
  (Below.cell h (World.block_lt_of_cell? a p hc)).trans hc
theorem Keep.le {a b : World} (h : Keep a b) : a.heap.size ≤ b.heap.size := h.size
theorem Keep.of_below {a b : World} {B : Nat} (h : Below B a b) (hB : a.heap.size ≤ B) : Keep a b := Below.mono h hB
theorem Keep.at {a b : World} (h : Keep a b) {i : Nat} {o : Obj} (hb : a.heap[i]? = some o) : b.heap[i]? = some o := by
  rw [h.block i (Array.getElem?_eq_some_iff.1 hb).1]; exact hb
/-- A text's bytes as a list. -/
theorem sz_mk (l : List UInt8) : (ByteArray.mk l.toArray).size = l.length := by simp [ByteArray.size]
theorem dt_mk (l : List UInt8) : (ByteArray.mk l.toArray).data.toList = l := by simp
theorem mk_dt (s : ByteArray) : ByteArray.mk s.data.toList.toArray = s := by simp
theorem run_ix (l : List UInt8) (j : Nat) (h : j < l.length) (w : World) : (Instr.index 9 (.string ⟨l.toArray⟩) (.int .i64 (j : Int))).run Tryd.prog w = .ok (.int .u8 ((l.getD j 0).toNat : Nat)) w := by
  have hs : (ByteArray.mk l.toArray).size = l.length := sz_mk l
  have h1 : (0 : Int) ≤ (j : Int) ∧ (j : Int) < ((ByteArray.mk l.toArray).size : Int) := by rw [hs]; omega
  rw [run_index_string w 9 _ .i64 j Tryd.underlying9, dif_pos h1]
  have : (l.getD j 0) = ((ByteArray.mk l.toArray)[((j : Int)).toNat]'(by rw [hs]; omega)) := by
    show _ = (ByteArray.mk l.toArray).data[((j : Int)).toNat]'_
    simp [List.getD, h]
  rw [this]
theorem ext_mk (l : List UInt8) (a b : Nat) : (ByteArray.mk l.toArray).extract a b = ⟨((l.take b).drop a).toArray⟩ := by
  rw [ByteArray.extract_mk, List.drop_take]
theorem run_from (l : List UInt8) (j : Nat) (h : j ≤ l.length) (w : World) : (Instr.slice 9 (.string ⟨l.toArray⟩) (some (.int .i64 (j : Int))) none none).run Tryd.prog w = .ok (.string ⟨(l.drop j).toArray⟩) w := by
  rw [run_slice_string_l w 9 _ Tryd.underlying9 .i64 (j : Int) (by omega) (by rw [sz_mk]; omega)]
  rw [ext_mk, sz_mk, List.take_length]; rfl
theorem run_upto (l : List UInt8) (j : Nat) (h : j ≤ l.length) (w : World) : (Instr.slice 9 (.string ⟨l.toArray⟩) none (some (.int .i64 (j : Int))) none).run Tryd.prog w = .ok (.string ⟨(l.take j).toArray⟩) w := by
  rw [run_slice_string_h w 9 _ Tryd.underlying9 .i64 (j : Int) (by omega) (by rw [sz_mk]; omega)]
  rw [ext_mk]; rfl
/-- append of one element, of whatever row of one's own. -/
theorem appG_run {S E z by' : Nat} {zv : Value} (hS : Tryd.prog.underlying S = some (.slice E)) (iE : (Tryd.prog.info? E).map (fun i => (i.zero, i.size, i.bytes)) = some (some zv, z, by')) (hzc : zv.cells.size = z) (hz : 0 < z) (B : Nat) (w : World) (ty : Nat) (v : Value) (n : Nat) (xs ys : List Value) (hown : w.ownsRow B E z v n xs) (hB : B ≤ w.heap.size) (ad : Addr) (c : Nat) (hl : ys.length = z) (hnews : ∀ j u, ys[j]? = some u → w.cell? (ad.add j) = some u) (h1 : ∀ u ∈ ys, u.oneCell' = true) (hn : n + 1 ≤ 4294967296) (hb : by' ≤ 32) :
    ∃ v' w', (Builtin.append_ #[S, S] ty #[v, .slice (some ad) 1 c]).run Tryd.prog w = .ok v' w' ∧ w'.ownsRow B E z v' (n + 1) (xs ++ ys) ∧ w.grownBy w' v.ownBlock := by
  obtain ⟨i0, hi, hz0, hz1, hz2⟩ := info_parts iE
  obtain ⟨v', w', hr, h2, h3, -⟩ := run_append_own (P := Tryd.prog) w B S ty E i0 _ z by' hS hi hz0 hz1 hz2 hzc hz v _ _ hown ad 1 c ys (by rw [hl, Nat.one_mul]) hnews h1 (by simp only [maxLen]; omega) (by
    have : (n + 1) * by' ≤ 4294967296 * 32 := Nat.mul_le_mul hn hb
    omega) hB
  exact ⟨v', w', hr, h2, h3⟩
theorem wpList_appG {S E z by' : Nat} {zv : Value} (hS : Tryd.prog.underlying S = some (.slice E)) (iE : (Tryd.prog.info? E).map (fun i => (i.zero, i.size, i.bytes)) = some (some zv, z, by')) (hzc : zv.cells.size = z) (hz : 0 < z) (hb : by' ≤ 32) (B : Nat) (w : World) {ops : Array Oper} {rest : List Oper} {o : Oper} {a : Act} {Q : Exit → Act → World → Prop} (hgd : o.guard = none) (s x : Operand)
    (hop : o.op = .call { callee := .builtin .append, args := #[s, x], argTypes := #[S, S] }) (n : Nat) (xs ys : List Value) (v : Value) (hs : a.eval s = v) (hown : w.ownsRow B E z v n xs) (hB : B ≤ w.heap.size) (ad : Addr) (c : Nat) (hx : a.eval x = .slice (some ad) 1 c) (hl : ys.length = z)
    (hnews : ∀ j u, ys[j]? = some u → w.cell? (ad.add j) = some u) (h1 : ∀ u ∈ ys, u.oneCell' = true) (hn : n + 1 ≤ 4294967296)
    (hK : ∀ v' w', w'.ownsRow B E z v' (n + 1) (xs ++ ys) → w.grownBy w' v.ownBlock → wpList Tryd.prog ops Q rest (a.put o.dst v') w') :
    wpList Tryd.prog ops Q (o :: rest) a w := by
  refine wpList_plain hgd fun K hK' => ?_
  obtain ⟨v', w', hrun, r1, r2⟩ := appG_run hS iE hzc hz B w o.type v n xs ys hown hB ad c hl hnews h1 hn hb
  unfold Oper.wp
  simp [execOp, hop, resolve, invoke, builtin, hs, hx, hrun, Result.andThen]
  exact hK' _ _ (hK v' w' r1 r2)
theorem own_block {B e s n : Nat} {w : World} {v : Value} {l : List Value} (h : w.ownsRow B e s v n l) {b : Nat} (hb : v.ownBlock = some b) : B ≤ b ∧ ∃ cur, w.heap[b]? = some (.cells cur e (0, 0)) := by
  rcases h.2 with ⟨h1, _⟩ | ⟨g, cap, cur, hv, hg, hh, r⟩
  · rw [h1] at hb; cases hb
  · rw [hv] at hb
    have hb : some g = some b := hb
    simp only [Option.some.injEq] at hb
    subst hb
    exact ⟨hg, cur, hh⟩
theorem own_keep {B e s n : Nat} {w w' : World} {v : Value} {l : List Value} (h : w.ownsRow B e s v n l) (k : Keep w w') : w'.ownsRow B e s v n l := by
  refine ⟨h.1, ?_⟩
  rcases h.2 with h2 | ⟨g, cap, cur, hv, hg, hh, r⟩
  · exact .inl h2
  · exact .inr ⟨g, cap, cur, hv, hg, k.at hh, r⟩
theorem own_nil (E z B : Nat) (w : World) : w.ownsRow B E z (.slice none 0 0) 0 [] := ⟨by simp, .inl ⟨rfl, rfl⟩⟩
theorem keep_grown {W w w' : World} {e s n : Nat} {v : Value} {l : List Value} (k : Keep W w) (h : w.ownsRow W.heap.size e s v n l) (g : w.grownBy w' v.ownBlock) : Keep W w' :=
  Below.grown k g k.le (fun b hb => (own_block h hb).1)
theorem own_len {B e s n : Nat} {w : World} {v : Value} {l : List Value} (h : w.ownsRow B e s v n l) : ∃ a c, v = .slice a n c ∧ n ≤ c := by
  have hl := h.1
  rcases h.2 with ⟨h1, h2⟩ | ⟨g, cap, cur, hv, hg, hh, h1, h2, h3, h4⟩
  · exact ⟨none, 0, by rw [h1, h2], by omega⟩
  · exact ⟨some ⟨g, 0, none⟩, cap, hv, h1⟩
theorem own_cells {B e s n : Nat} {w : World} {v : Value} {l : List Value} (h : w.ownsRow B e s v n l) : ∃ a c, v = .slice a n c ∧ n ≤ c ∧ ∀ j u, l[j]? = some u → ∃ b, a = some ⟨b, 0, none⟩ ∧ w.cell? ⟨b, j, none⟩ = some u := by
  have hl := h.1
  rcases h.2 with ⟨h1, h2⟩ | ⟨g, cap, cur, hv, hg, hh, h1, h2, h3, h4⟩
  · refine ⟨none, 0, by rw [h1, h2], by omega, fun j u hj => ?_⟩
    have h5 := (List.getElem?_eq_some_iff.1 hj).1
    rw [hl, h2] at h5
    omega
  · refine ⟨some ⟨g, 0, none⟩, cap, hv, h1, fun j u hj => ⟨g, rfl, ?_⟩⟩
    have hjl := (List.getElem?_eq_some_iff.1 hj).1
    rw [cell_of_row w g j cur e (0, 0) hh, ← hj, ← h4, List.getElem?_take, if_pos (by rw [hl] at hjl; exact hjl)]
    simp
end Go.Proofs.YtonfjmibnnioiaaDoor
