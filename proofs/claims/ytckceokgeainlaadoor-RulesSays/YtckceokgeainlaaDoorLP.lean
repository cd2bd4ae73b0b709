import Derived.Test.YtckceokgeainlaaDoorProg
import Derived.Test.YtckceokgeainlaaDoorLMath
import Derived.Deep.RegionWith
import Derived.Deep.RegionLaw
import Derived.Laws.MathBits
import Derived.WalkKit
import Derived.WalkSpells
import Derived.WalkLawsBesides
import Derived.Laws.CopyOwn
import Derived.Deep.Draws
import Derived.Deep.QuietTactic
import Derived.BigQuiet
import Derived.Laws.BytesArg
set_option linter.unusedVariables false
set_option linter.unusedSimpArgs false
namespace Go.Proofs.YtckceokgeainlaaDoor
open Go.RowKit Lb
/-- Limbs as cells. -/
def U (l : List Nat) : List Value := l.map (fun x => Value.int .u32 (x : Nat))
theorem U_get (l : List Nat) (j : Nat) (h : j < l.length) : (U l)[j]? = some (.int .u32 (l.getD j 0 : Nat)) := by simp [U, List.getD, h]
/-- A block that holds limbs. -/
def Row (w : World) (g : Nat) (l : List Nat) : Prop := w.heap[g]? = some (.cells (U l).toArray 70 (0, 0))
/-- Nothing that was there has turned. -/
def Keep (w w' : World) : Prop := Below w.heap.size w w'
/-- Only block g has turned. -/
structure Mut (g : Nat) (w w' : World) : Prop where
  os : w'.os = w.os
  tape : w'.tape = w.tape
  output : w'.output = w.output
  size : w'.heap.size = w.heap.size
  block : ∀ k, k ≠ g → w'.heap[k]? = w.heap[k]?
/-- What a slice at that address reads as. -/
def Rd (w : World) (a : Option Addr) (l : List Nat) : Prop :=
  ∀ j, j < l.length → ∃ b o, a = some ⟨b, o, none⟩ ∧ w.cell? ⟨b, o + j, none⟩ = some (.int .u32 (l.getD j 0 : Nat))
/-- A slice over a block of the call's own, from its head on. -/
def Res (B : Nat) (w : World) (v : Value) (l : List Nat) : Prop :=
  (v = .slice none 0 0 ∧ l = []) ∨ ∃ g r, v = .slice (some ⟨g, 0, none⟩) l.length r.length ∧ B ≤ g ∧ Row w g r ∧ l.length ≤ r.length ∧ r.take l.length = l
theorem Row.lt {w : World} {g : Nat} {l : List Nat} (h : Row w g l) : g < w.heap.size := (Array.getElem?_eq_some_iff.1 h).1
theorem Row.cell {w : World} {g : Nat} {l : List Nat} (h : Row w g l) (j : Nat) (hj : j < l.length) : w.cell? ⟨g, j, none⟩ = some (.int .u32 (l.getD j 0 : Nat)) := by
  rw [cell_of_row w g j _ 70 (0, 0) h]; simpa using U_get l j hj
theorem Row.frozen {w : World} {g : Nat} {l : List Nat} (h : Row w g l) (j : Nat) : w.frozen? ⟨g, j, none⟩ = false := frozen_of_row w g j _ 70 h
theorem Row.set {w : World} {g : Nat} {l : List Nat} (h : Row w g l) (j x : Nat) : Row (w.setCell ⟨g, j, none⟩ (.int .u32 (x : Nat))) g (l.set j x) := by
  have := heap_setCell_same w g j _ 70 (.int .u32 (x : Nat)) h
  unfold Row
  rw [this]
  simp [U, List.map_set]
theorem Row.drewN {w : World} {g : Nat} {l : List Nat} (h : Row w g l) (q : Nat) : Row (w.drewN q) g l := h
theorem Row.keep {w w' : World} {g : Nat} {l : List Nat} (h : Row w g l) (k : Keep w w') : Row w' g l := by
  unfold Row; rw [k.block g h.lt]; exact h
theorem Row.rd {w : World} {g : Nat} {l : List Nat} (h : Row w g l) (o n : Nat) (hn : o + n ≤ l.length) : Rd w (some ⟨g, o, none⟩) ((l.drop o).take n) := by
  intro j hj
  refine ⟨g, o, rfl, ?_⟩
  have h1 : j < n := by simp at hj; omega
  rw [h.cell (o + j) (by omega)]
  simp [List.getD, h1]
theorem Keep.refl (w : World) : Keep w w := Below.refl _ _
theorem Keep.trans {a b c : World} (h : Keep a b) (k : Keep b c) : Keep a c := Below.trans h (Below.mono k h.size)
theorem Keep.drewN {a b : World} (h : Keep a b) (q : Nat) : Keep a (b.drewN q) := ⟨h.os, h.tape, h.output, h.size, h.block⟩
theorem Keep.alloc {a b : World} (h : Keep a b) (o : Obj) : Keep a (b.alloc o) := Below.alloc h h.size o
theorem Keep.setCell {a b : World} (h : Keep a b) {p : Addr} (hp : a.heap.size ≤ p.block) (u : Value) : Keep a (b.setCell p u) := Below.setCell h hp u
theorem Keep.cell {a b : World} (h : Keep a b) {p : Addr} {v : Value} (hc : a.cell? p = some v) : b.cell? p = some v :=
  (Below.cell h (World.block_lt_of_cell? a p hc)).trans hc
theorem Keep.le {a b : World} (h : Keep a b) : a.heap.size ≤ b.heap.size := h.size
theorem Mut.refl (g : Nat) (w : World) : Mut g w w := ⟨rfl, rfl, rfl, rfl, fun _ _ => rfl⟩
theorem Mut.trans {g : Nat} {a b c : World} (h : Mut g a b) (k : Mut g b c) : Mut g a c :=
  ⟨k.os.trans h.os, k.tape.trans h.tape, k.output.trans h.output, k.size.trans h.size, fun i hi => (k.block i hi).trans (h.block i hi)⟩
theorem Mut.drewN {g : Nat} {a b : World} (h : Mut g a b) (q : Nat) : Mut g a (b.drewN q) := ⟨h.os, h.tape, h.output, h.size, h.block⟩
theorem Mut.setCell {g : Nat} {a b : World} (h : Mut g a b) (j : Nat) (u : Value) : Mut g a (b.setCell ⟨g, j, none⟩ u) :=
  h.trans ⟨rfl, rfl, rfl, by simp, fun k hk => Below.heap_setCell _ _ _ _ (by simpa using hk)⟩
theorem Mut.cell {g : Nat} {a b : World} (h : Mut g a b) {p : Addr} {v : Value} (hp : p.block ≠ g) (hc : a.cell? p = some v) : b.cell? p = some v :=
  (World.cell?_of_block (h.block p.block hp)).trans hc
theorem Rd.keep {w w' : World} {a : Option Addr} {l : List Nat} (h : Rd w a l) (k : Keep w w') : Rd w' a l := by
  intro j hj
  obtain ⟨b, o, e, hc⟩ := h j hj
  exact ⟨b, o, e, k.cell hc⟩
theorem Rd.take {w : World} {a : Option Addr} {l : List Nat} (h : Rd w a l) (n : Nat) : Rd w a (l.take n) := by
  intro j hj
  have h1 : j < n ∧ j < l.length := by simp at hj; omega
  obtain ⟨b, o, e, hc⟩ := h j h1.2
  exact ⟨b, o, e, by rw [hc]; simp [List.getD, h1.1]⟩
theorem Rd.nil (w : World) (a : Option Addr) : Rd w a [] := by intro j hj; simp at hj
theorem Res.keep {B : Nat} {w w' : World} {v : Value} {l : List Nat} (h : Res B w v l) (k : Keep w w') : Res B w' v l := by
  rcases h with h | ⟨g, r, e, hb, hr, h1, h2⟩
  · exact .inl h
  · exact .inr ⟨g, r, e, hb, hr.keep k, h1, h2⟩
theorem Res.mono {B B' : Nat} {w : World} {v : Value} {l : List Nat} (h : Res B w v l) (hB : B' ≤ B) : Res B' w v l := by
  rcases h with h | ⟨g, r, e, hb, hr, h1, h2⟩
  · exact .inl h
  · exact .inr ⟨g, r, e, by omega, hr, h1, h2⟩
/-- Its shape, and what it reads as. -/
theorem Res.shape {B : Nat} {w : World} {v : Value} {l : List Nat} (h : Res B w v l) : ∃ a c, v = .slice a l.length c ∧ l.length ≤ c ∧ Rd w a l := by
  rcases h with ⟨rfl, rfl⟩ | ⟨g, r, e, hb, hr, h1, h2⟩
  · exact ⟨none, 0, rfl, Nat.le_refl _, Rd.nil _ _⟩
  · refine ⟨some ⟨g, 0, none⟩, r.length, e, h1, ?_⟩
    have := hr.rd 0 l.length (by omega)
    rw [List.drop_zero, h2] at this
    exact this
theorem i62 : (Tryd.prog.info? 70).map (fun i => (i.zero, i.size, i.bytes)) = some (some (.int .u32 0), 1, 4) := by kernel_rfl
theorem made32 (n : Nat) : madeCells (Value.int .u32 0).cells n = (U (List.replicate n 0)).toArray := by
  have := toList_madeCells_one (.int .u32 0) n
  rw [← Array.toList_inj]
  simp only [U, List.map_replicate]
  exact this
/-- make([]uint32, n). -/
theorem wpList_make32 (w : World) {ops : Array Oper} {rest : List Oper} {o : Oper} {a : Act} {Q : Exit → Act → World → Prop}
    (hg : o.guard = none) (l c : Operand) (hop : o.op = Op.makeSlice 34 l c) (kl kc : IntKind) (L C : Int) (n : Nat) (hl : a.eval l = .int kl L) (hc : a.eval c = .int kc C) (hL : L = (n : Int)) (hC : C = (n : Int)) (hn : n ≤ 70368744177664)
    (hK : ∀ w', Row w' w.heap.size (List.replicate n 0) → Keep w w' → w'.heap.size = w.heap.size + 1 → wpList Tryd.prog ops Q rest (a.put o.dst (.slice (some ⟨w.heap.size, 0, none⟩) n n)) w') :
    wpList Tryd.prog ops Q (o :: rest) a w := by
  refine wpList_plain hg fun K hK' => ?_
  obtain ⟨i, hi, hz0, hz1, hz2⟩ := info_parts i62
  have hr := run_make (P := Tryd.prog) w 34 70 i _ Tryd.underlying34 hi hz0 kl kc n n (by omega) (by omega) (by rw [hz2]; omega) (by omega)
  subst hL
  subst hC
  rw [hz1] at hr
  unfold Oper.wp
  simp only [Int.toNat_natCast, Nat.mul_one, made32] at hr
  simp [execOp, hop, hl, hc, hr, Result.andThen]
  exact hK' _ _ (hK _ (heap_alloc_new w _) ((Keep.refl w).alloc _) (by simp))
/-- Only the count of draws has moved on. -/
def Dr (w w' : World) : Prop := ∃ q, w' = w.drewN q
theorem Dr.refl (w : World) : Dr w w := ⟨0, rfl⟩
theorem Dr.drewN {w w' : World} (h : Dr w w') (q : Nat) : Dr w (w'.drewN q) := by obtain ⟨n, rfl⟩ := h; exact ⟨n + q, World.drewN_drewN _ _ _⟩
theorem Dr.cell {w w' : World} (h : Dr w w') (a : Addr) : w'.cell? a = w.cell? a := by obtain ⟨n, rfl⟩ := h; rfl
theorem Dr.keep {w w' : World} (h : Dr w w') : Keep w w' := by obtain ⟨n, rfl⟩ := h; exact (Keep.refl w).drewN n
theorem Dr.trans {a b c : World} (h : Dr a b) (k : Dr b c) : Dr a c := by obtain ⟨n, rfl⟩ := k; exact h.drewN n
theorem or_hi (x y : Nat) (h : y < 4294967296) : y ||| (x * 4294967296) = y + x * 4294967296 := by
  have := Nat.two_pow_add_eq_or_of_lt (i := 32) h x
  rw [Nat.or_comm, Nat.mul_comm, Nat.add_comm]
  exact this.symm
theorem or64' (x y : Nat) (hx : x < 4294967296) (hy : y < 4294967296) : bits .or .u64 ((x : Int) * 4294967296) (y : Int) = ((x * 4294967296 + y : Nat) : Int) := by
  have := u64_or_nat (x * 4294967296) y (by omega) (by omega)
  rw [Nat.or_comm, or_hi x y hy, Nat.add_comm] at this
  rw [← this]
  simp
/-- A slice that owns its limbs (made by append). -/
def Own (B : Nat) (w : World) (v : Value) (l : List Nat) : Prop := w.ownsRow B 70 1 v l.length (U l)
theorem Own.keep {B : Nat} {w w' : World} {v : Value} {l : List Nat} (h : Own B w v l) (k : Keep w w') : Own B w' v l := by
  refine ⟨h.1, ?_⟩
  rcases h.2 with h2 | ⟨g, cap, cur, hv, hg, hh, r⟩
  · exact .inl h2
  · exact .inr ⟨g, cap, cur, hv, hg, by rw [k.block g (Array.getElem?_eq_some_iff.1 hh).1]; exact hh, r⟩
theorem Own.mono {B B' : Nat} {w : World} {v : Value} {l : List Nat} (h : Own B w v l) (hB : B' ≤ B) : Own B' w v l := by
  refine ⟨h.1, ?_⟩
  rcases h.2 with h2 | ⟨g, cap, cur, hv, hg, r⟩
  · exact .inl h2
  · exact .inr ⟨g, cap, cur, hv, by omega, r⟩
theorem Own.shape {B : Nat} {w : World} {v : Value} {l : List Nat} (h : Own B w v l) : ∃ a c, v = .slice a l.length c ∧ l.length ≤ c ∧ Rd w a l := by
  rcases h.2 with ⟨h1, h2⟩ | ⟨g, cap, cur, hv, hg, hh, h1, h2, h3, h4⟩
  · exact ⟨none, 0, by rw [h1, h2], by omega, fun j hj => by omega⟩
  · refine ⟨some ⟨g, 0, none⟩, cap, hv, h1, ?_⟩
    intro j hj
    refine ⟨g, 0, rfl, ?_⟩
    rw [Nat.zero_add, cell_of_row w g j cur 70 (0, 0) hh, ← U_get l j hj, ← h4]
    simp [hj]
/-- out = append(out, x). -/
theorem wpList_app32 {w0 wr : World} {ops : Array Oper} {rest : List Oper} {o : Oper} {a : Act} {Q : Exit → Act → World → Prop} (hgd : o.guard = none) (s x : Operand)
    (ho : o.op = .call { callee := .builtin .append, args := #[s, x], argTypes := #[34, 34] }) (l : List Nat) (v : Value) (hs : a.eval s = v) (Y : Int) (y : Nat) (hY : Y = (y : Int))
    (hx : a.eval x = .slice (some ⟨wr.heap.size, 0, none⟩) 1 1) (hown : Own w0.heap.size wr v l) (hk : Keep w0 wr) (hlen : l.length < 35184372088832)
    (hK : ∀ v' w1, Own w0.heap.size w1 v' (l ++ [y]) → Keep w0 w1 → wpList Tryd.prog ops Q rest (a.put o.dst v') w1) :
    wpList Tryd.prog ops Q (o :: rest) a (wr.alloc (.cells #[.int .u32 Y] 70)) := by
  obtain ⟨i0, hi, hz0, hz1, hz2⟩ := info_parts i62
  subst hY
  refine wpList_append_own _ hgd s x 34 ho w0.heap.size 70 i0 (.int .u32 0) 1 4 Tryd.underlying34 hi hz0 hz1 hz2 rfl (by decide) v _ _ hs (hown.alloc _) ⟨wr.heap.size, 0, none⟩ 1 1 [.int .u32 (y : Int)] hx rfl ?_ ?_ ?_ ?_ ?_ ?_
  · intro j u hj
    match j, hj with
    | 0, hj => simp at hj; subst hj; simp [Addr.add]
  · intro u hu; simp at hu; subst hu; rfl
  · simp only [maxLen]; omega
  · omega
  · have := hk.le; simp; omega
  · intro v' w1 h1 h2 _
    refine hK v' w1 ?_ ?_
    · unfold Own; simpa [U] using h1
    · refine Below.grown (hk.alloc _) h2 (by have := hk.le; simp; omega) ?_
      intro k hk'
      have := hown.lt k hk'
      exact this.1
theorem take_snoc (l : List Nat) (j : Nat) (h : j < l.length) : l.take (j + 1) = l.take j ++ [l.getD j 0] := by
  rw [List.take_succ_eq_append_getElem h]; simp [List.getD, h]
set_option maxHeartbeats 400000 in
set_option maxRecDepth 100000 in
theorem rNorm_any (a : Option Addr) (c : Nat) (l : List Nat) (w : World) (_hnc : l.length ≤ c) (hl : l.length ≤ 35184372088000) (hr : Rd w a l) :
    Calls Tryd.prog 47 #[.slice a l.length c] w fun e w' => ∃ v, e = .returned v ∧ Own w.heap.size w' v (l.take (nl l)) ∧ Keep w w' := by
  obtain ⟨i0, hi, hz0, hz1, hz2⟩ := info_parts i62
  go_enter Tryd.func47, Tryd.ntmps47
  go_wp2
  go_loop [3] (fun i => ∃ k : Nat, k ≤ l.length ∧ i = .int .i64 k ∧ ∀ j, k ≤ j → l.getD j 0 = 0) (fun i => (intOf i).toNat)
  case atStart => exact ⟨l.length, Nat.le_refl _, rfl, fun j hj => by simp [List.getD, List.getElem?_eq_none hj]⟩
  case round =>
    obtain ⟨k, hk, rfl, hz⟩ := hrel
    by_cases hc0 : 0 < k ∧ l.getD (k - 1) 0 = 0
    · obtain ⟨h0, hx⟩ := hc0
      obtain ⟨b, o, rfl, hc⟩ := hr (k - 1) (by omega)
      rw [hx] at hc
      have Hx : Hid (l.getD (k - 1) 0 = 0) := hx; clear hx
      go_wp2
      go_round
      case rel => exact ⟨k - 1, by omega, by go_num, fun j hj => by
        by_cases e : j = k - 1
        · subst e; exact Hx.out
        · exact hz j (by omega)⟩
      case measure => simp [intOf]; omega
    · have hnl : nl l = k := nl_eq l k hz (fun h h' => hc0 ⟨h, h'⟩)
      have Hnl : Hid (nl l = k) := hnl
      clear hz hnl
      have hex : (0 < k ∧ ∃ b o x, a = some ⟨b, o, none⟩ ∧ x ≠ 0 ∧ w.cell? ⟨b, o + (k - 1), none⟩ = some (.int .u32 (x : Nat))) ∨ k = 0 := by
        by_cases h0 : 0 < k
        · obtain ⟨b, o, e, hc⟩ := hr (k - 1) (by omega)
          exact .inl ⟨h0, b, o, _, e, fun h => hc0 ⟨h0, h⟩, hc⟩
        · exact .inr (by omega)
      clear hc0
      rcases hex with ⟨h0, b, o, x, rfl, hx0, hc⟩ | rfl
      all_goals
        go_wp2
        go_loopw [4, 5] (fun v i wr => ∃ j : Nat, j ≤ nl l ∧ i = .int .i64 j ∧ Own w.heap.size wr v (l.take j) ∧ Keep w wr) (fun _ i _ => nl l - (intOf i).toNat)
        case atStart => exact ⟨0, by omega, rfl, World.ownsRow_nil _ _ _ _, Keep.refl _⟩
        case round =>
          obtain ⟨j, hj, rfl, hown, hkp⟩ := hrel
          rw [Hnl.out] at hj
          first
          | (have hj0 : j = 0 := by omega
             subst hj0
             go_wp2
             go_ret
             exact ⟨_, rfl, by rw [Hnl.out]; exact hown, hkp⟩)
          | (clear hc
             by_cases hjl : j < k
             · obtain ⟨b', o', e', hc'⟩ := hr j (by omega)
               simp only [Option.some.injEq, Addr.mk.injEq, and_true] at e'
               obtain ⟨rfl, rfl⟩ := e'
               have hc2 := hkp.cell hc'
               clear hc'
               obtain ⟨y, hy⟩ : ∃ y, l.getD j 0 = y := ⟨_, rfl⟩
               rw [hy] at hc2
               have Hy : Hid (l.getD j 0 = y) := hy; clear hy
               have hlen : (l.take j).length < 35184372088832 := by simp; omega
               have hle : (l.take j).length = j := by simp; omega
               go_wp2_with (at_builtin; refine wpList_app32 rfl _ _ rfl (l.take j) _ rfl _ y rfl rfl hown hkp hlen ?_; intro v' w1 hown' hk')
               go_roundw
               case rel => exact ⟨j + 1, by rw [Hnl.out]; omega, by go_num, by rw [take_snoc l j (by omega), Hy.out]; exact hown', hk'⟩
               case measure => have := Hnl.out; simp [intOf]; omega
             · go_wp2
               go_ret
               exact ⟨_, rfl, by rw [Hnl.out, show k = j by omega]; exact hown, hkp⟩)
def smallV (l : List Nat) : Nat := if nl l ≤ 2 then val l else 0
def smallB (l : List Nat) : Bool := decide (nl l ≤ 2)
theorem and64 (n : Nat) (hn : n < 18446744073709551616) : bits .and .u64 (n : Int) 4294967295 = ((n % 4294967296 : Nat) : Int) := by
  have := u64_and_nat n 4294967295 hn (by omega)
  rw [show n &&& 4294967295 = n % 4294967296 from Nat.and_two_pow_sub_one_eq_mod n 32] at this
  exact this
set_option maxRecDepth 100000 in
set_option maxHeartbeats 400000 in
theorem rFrom_any (n : Nat) (w : World) (hn : n < 18446744073709551616) :
    Calls Tryd.prog 35 #[.int .u64 (n : Nat)] w fun e w' => ∃ v l, e = .returned v ∧ Own w.heap.size w' v l ∧ Lim l ∧ Nrm l ∧ val l = n ∧ Keep w w' := by
  have hand := and64 n hn
  go_enter Tryd.func35, Tryd.ntmps35
  go_wp2_with fail
  have hrow : Row (w.alloc (Obj.cells #[Value.int IntKind.u32 (↑n % 4294967296), Value.int IntKind.u32 (↑n / 4294967296)] 70)) w.heap.size [n % 4294967296, n / 4294967296] := by
    unfold Row; rw [heap_alloc_new]; simp [U]
  have hk : Keep w (w.alloc (Obj.cells #[Value.int IntKind.u32 (↑n % 4294967296), Value.int IntKind.u32 (↑n / 4294967296)] 70)) := (Keep.refl w).alloc _
  generalize w.alloc _ = w1 at hrow hk ⊢
  refine (rNorm_any (some ⟨w.heap.size, 0, none⟩) 2 [n % 4294967296, n / 4294967296] w1 (by simp) (by simp) (hrow.rd 0 2 (by simp))).mono ?_
  rintro e w' ⟨v, rfl, hown, hk'⟩
  go_wp2
  go_ret
  exact ⟨_, [n % 4294967296, n / 4294967296].take (nl [n % 4294967296, n / 4294967296]), rfl, hown.mono hk.le, Lim_take (by intro x hx; simp at hx; omega) _, Nrm_take _, by rw [val_take_nl]; simp [val]; omega, hk.trans hk'⟩
theorem val_drop_pred (r : List Nat) (k : Nat) (h0 : 0 < k) (h : k ≤ r.length) : val (r.drop (k - 1)) = r.getD (k - 1) 0 + 4294967296 * val (r.drop k) := by
  obtain ⟨j, rfl⟩ : ∃ j, k = j + 1 := ⟨k - 1, by omega⟩
  rw [Nat.add_sub_cancel, List.drop_eq_getElem_cons (by omega), val]
  simp [List.getD, show j < r.length by omega]
set_option maxRecDepth 100000 in
set_option maxHeartbeats 400000 in
theorem rSmall_any (a : Option Addr) (c : Nat) (l : List Nat) (w : World) (hnc : l.length ≤ c) (hl : l.length ≤ 35184372088000) (hr : Rd w a l) (hm : Lim l) :
    Calls Tryd.prog 83 #[.slice a l.length c] w fun e w' => e = .returned (.tuple #[.int .u64 (smallV l : Nat), .bool (smallB l)]) ∧ Keep w w' := by
  have h1 := nl_le l
  have e1 : (l.take (nl l)).length = nl l := by simp; omega
  have hmm := Lim_take hm (nl l)
  by_cases h2 : 2 < nl l
  · go_enter Tryd.func83, Tryd.ntmps83
    go_wp2_with fail
    refine (rNorm_any a c l w hnc hl hr).mono ?_
    rintro e w' ⟨v, rfl, hown, hk'⟩
    obtain ⟨a', c', rfl, hc', hr'⟩ := hown.shape
    rw [e1]
    go_wp2
    go_ret2
    exact ⟨by simp [smallV, smallB, show ¬ nl l ≤ 2 by omega], hk'⟩
  · have hd : decide (2 < (nl l : Int)) = false := by simp; omega
    go_enter Tryd.func83, Tryd.ntmps83
    go_wp2_with fail
    refine (rNorm_any a c l w hnc hl hr).mono ?_
    rintro e w' ⟨v, rfl, hown, hk'⟩
    obtain ⟨a', c', rfl, hc', hr'⟩ := hown.shape
    have ev : Hid (val (l.take (nl l)) = val l) := val_take_nl l
    rw [e1]
    clear hown
    generalize l.take (nl l) = r at *
    generalize hn : nl l = n at *
    have Hn : Hid (nl l = n) := hn
    clear hn
    have Hr : Hid (r.length = n) := e1
    have hn2 : n ≤ 2 := by omega
    clear e1
    go_wp2
    go_loop [5, 6] (fun v i => ∃ k : Nat, k ≤ n ∧ i = .int .i64 ((k : Int) - 1) ∧ v = .int .u64 (val (r.drop k) : Nat)) (fun _ i => (intOf i + 1).toNat)
    case atStart => exact ⟨n, Nat.le_refl _, rfl, by rw [List.drop_eq_nil_of_le (by rw [Hr.out]; exact Nat.le_refl _)]; rfl⟩
    case round =>
      obtain ⟨k, hk, rfl, rfl⟩ := hrel
      by_cases hk0 : 0 < k
      · obtain ⟨b, o, rfl, hc⟩ := hr' (k - 1) (by have := Hr.out; omega)
        obtain ⟨x, hx⟩ : ∃ x, r.getD (k - 1) 0 = x := ⟨_, rfl⟩
        have hxl : x < 4294967296 := hx ▸ Lim_getD hmm _
        obtain ⟨y, hy⟩ : ∃ y, val (r.drop k) = y := ⟨_, rfl⟩
        have hyl : y < 4294967296 := by
          rw [← hy]
          refine Nat.lt_of_lt_of_le (val_lt (Lim_drop hmm k)) ?_
          refine Nat.le_trans (Nat.pow_le_pow_right (by omega) (show (r.drop k).length ≤ 1 by have := Hr.out; simp; omega)) (by omega)
        have Hv : Hid (val (r.drop (k - 1)) = y * 4294967296 + x) := by
          show _ = _
          rw [val_drop_pred r k hk0 (by have := Hr.out; omega), hx, hy]; omega
        rw [hx] at hc
        rw [hy]
        clear hx hy
        have hor := or64' y x hyl hxl
        go_wp2
        go_round
        case rel => exact ⟨k - 1, by omega, by go_num, by rw [Hv.out]; simp⟩
        case measure => simp [intOf]; omega
      · go_wp2
        go_ret2
        have e0 : k = 0 := by omega
        subst e0
        exact ⟨by have := ev.out; simp [smallV, smallB, Hn.out, hn2, this], hk'⟩
/-- A natural without needless limbs, in memory of the call's own. -/
def NatR (B : Nat) (w : World) (v : Value) (n : Nat) : Prop := ∃ l, Res B w v l ∧ Lim l ∧ Nrm l ∧ val l = n
theorem len_lt_val {a b : List Nat} (ha : Lim a) (nb : Nrm b) (h : a.length < b.length) : val a < val b := by
  have h1 := val_lt ha
  have h2 := val_ge nb (by intro h0; simp [h0] at h)
  have h3 : 4294967296 ^ a.length ≤ 4294967296 ^ (b.length - 1) := Nat.pow_le_pow_right (by omega) (by omega)
  omega
theorem NatR.keep {B : Nat} {w w' : World} {v : Value} {n : Nat} (h : NatR B w v n) (k : Keep w w') : NatR B w' v n := by
  obtain ⟨l, h1, h2⟩ := h; exact ⟨l, h1.keep k, h2⟩
theorem NatR.mono {B B' : Nat} {w : World} {v : Value} {n : Nat} (h : NatR B w v n) (hB : B' ≤ B) : NatR B' w v n := by
  obtain ⟨l, h1, h2⟩ := h; exact ⟨l, h1.mono hB, h2⟩
theorem Row.rd0 {w : World} {g : Nat} {l : List Nat} (h : Row w g l) : Rd w (some ⟨g, 0, none⟩) l := by
  have := h.rd 0 l.length (by omega); simpa using this
theorem NatR.shape {B : Nat} {w : World} {v : Value} {n : Nat} (h : NatR B w v n) : ∃ a c l, v = .slice a l.length c ∧ l.length ≤ c ∧ Rd w a l ∧ Lim l ∧ Nrm l ∧ val l = n ∧ Res B w v l := by
  obtain ⟨l, h1, h2, h3, h4⟩ := h
  obtain ⟨a, c, e, hc, hr⟩ := h1.shape
  exact ⟨a, c, l, e, hc, hr, h2, h3, h4, h1⟩
/-- A quotient's variable. -/
def Box (w : World) (g : Nat) (x y z : Value) : Prop := w.heap[g]? = some (.cells #[x, y, z] 47 (0, 0))
theorem Box.keep {w w' : World} {g : Nat} {x y z : Value} (h : Box w g x y z) (k : Keep w w') : Box w' g x y z := by
  unfold Box; rw [k.block g (Array.getElem?_eq_some_iff.1 h).1]; exact h
theorem Box.cells {w : World} {g : Nat} {x y z : Value} (h : Box w g x y z) : w.cell? ⟨g, 0, none⟩ = some x ∧ w.cell? ⟨g, 1, none⟩ = some y ∧ w.cell? ⟨g, 2, none⟩ = some z := by
  refine ⟨?_, ?_, ?_⟩ <;> rw [cell_of_row w g _ _ 47 (0, 0) h] <;> rfl
/-- Bytes as cells. -/
def V8 (l : List Nat) : List Value := l.map (fun x => Value.int .u8 (x : Nat))
def Row8 (w : World) (g : Nat) (l : List Nat) : Prop := w.heap[g]? = some (.cells (V8 l).toArray 5 (0, 0))
/-- Of what was there only block g has turned. -/
structure Gr (g : Nat) (w w' : World) : Prop where
  os : w'.os = w.os
  tape : w'.tape = w.tape
  output : w'.output = w.output
  size : w.heap.size ≤ w'.heap.size
  block : ∀ k, k < w.heap.size → k ≠ g → w'.heap[k]? = w.heap[k]?
theorem Gr.refl (g : Nat) (w : World) : Gr g w w := ⟨rfl, rfl, rfl, Nat.le_refl _, fun _ _ _ => rfl⟩
theorem Gr.trans {g : Nat} {a b c : World} (h : Gr g a b) (k : Gr g b c) : Gr g a c :=
  ⟨k.os.trans h.os, k.tape.trans h.tape, k.output.trans h.output, Nat.le_trans h.size k.size, fun i hi hg => (k.block i (Nat.lt_of_lt_of_le hi h.size) hg).trans (h.block i hi hg)⟩
theorem Keep.gr {w w' : World} (h : Keep w w') (g : Nat) : Gr g w w' := ⟨h.os, h.tape, h.output, h.size, fun k hk _ => h.block k hk⟩
theorem Mut.gr {w w' : World} {g : Nat} (h : Mut g w w') : Gr g w w' := ⟨h.os, h.tape, h.output, by rw [h.size]; exact Nat.le_refl _, fun k _ hg => h.block k hg⟩
theorem Gr.keep {g : Nat} {a b c : World} (h : Gr g a b) (k : Keep b c) : Gr g a c := h.trans (k.gr g)
theorem Row8.lt {w : World} {g : Nat} {l : List Nat} (h : Row8 w g l) : g < w.heap.size := (Array.getElem?_eq_some_iff.1 h).1
theorem V8_get (l : List Nat) (j : Nat) (h : j < l.length) : (V8 l)[j]? = some (.int .u8 (l.getD j 0 : Nat)) := by simp [V8, List.getD, h]
theorem Row8.cell {w : World} {g : Nat} {l : List Nat} (h : Row8 w g l) (j : Nat) (hj : j < l.length) : w.cell? ⟨g, j, none⟩ = some (.int .u8 (l.getD j 0 : Nat)) := by
  rw [cell_of_row w g j _ 5 (0, 0) h]; simpa using V8_get l j hj
theorem Row8.frozen {w : World} {g : Nat} {l : List Nat} (h : Row8 w g l) (j : Nat) : w.frozen? ⟨g, j, none⟩ = false := frozen_of_row w g j _ 5 h
theorem Row8.set {w : World} {g : Nat} {l : List Nat} (h : Row8 w g l) (j x : Nat) : Row8 (w.setCell ⟨g, j, none⟩ (.int .u8 (x : Nat))) g (l.set j x) := by
  have := heap_setCell_same w g j _ 5 (.int .u8 (x : Nat)) h
  unfold Row8
  rw [this]
  simp [V8, List.map_set]
theorem Row8.keep {w w' : World} {g : Nat} {l : List Nat} (h : Row8 w g l) (k : Keep w w') : Row8 w' g l := by
  unfold Row8; rw [k.block g h.lt]; exact h
/-- A number's last k decimal digits, noughts ahead, as bytes. -/
def dw : Nat → Nat → List Nat
  | 0, _ => []
  | k + 1, n => dw k (n / 10) ++ [48 + n % 10]
theorem dw_cons : ∀ (k n : Nat), dw (k + 1) n = (48 + n / 10 ^ k % 10) :: dw k n
  | 0, n => by simp [dw]
  | k + 1, n => by
    rw [dw, dw_cons k (n / 10), Nat.div_div_eq_div_mul, List.cons_append, Nat.pow_succ, Nat.mul_comm 10]
    rfl
/-- Codes as a string. -/
def S8 (l : List Nat) : ByteArray := ⟨(l.map UInt8.ofNat).toArray⟩
def cut0 (l : List Nat) : List Nat := l.dropWhile (· == 48)
/-- A natural's decimal digits. -/
def dec (n : Nat) : List Nat := if n = 0 then [48] else cut0 (dw n n)
theorem lt_pow (n : Nat) : n < 10 ^ n := Nat.lt_pow_self (by omega)
theorem all48 : ∀ (k n : Nat), (∀ x ∈ dw k n, x = 48) → n < 10 ^ k → n = 0
  | 0, n, _, h => by simp at h; omega
  | k + 1, n, h, hn => by
    rw [dw] at h
    have h1 := all48 k (n / 10) (fun x hx => h x (by simp [hx])) (by rw [Nat.pow_succ] at hn; omega)
    have h2 := h (48 + n % 10) (by simp)
    omega
theorem cut0_nil : ∀ (l : List Nat), cut0 l = [] → ∀ x ∈ l, x = 48
  | [], _, x, hx => by simp at hx
  | y :: ys, h, x, hx => by
    unfold cut0 at h
    rw [List.dropWhile_cons] at h
    split at h
    · rename_i h1
      simp at hx
      rcases hx with rfl | hx
      · simpa using h1
      · exact cut0_nil ys h x hx
    · simp at h
theorem cut0_ne (n k : Nat) (hn : 0 < n) (h : n < 10 ^ k) : cut0 (dw k n) ≠ [] := by
  intro h0
  have := all48 k n (cut0_nil _ h0) h
  omega
theorem cut0_zero : ∀ k, cut0 (dw k 0) = []
  | 0 => rfl
  | k + 1 => by rw [dw_cons, Nat.zero_div]; exact cut0_zero k
theorem i5 : (Tryd.prog.info? 5).map (fun i => (i.zero, i.size, i.bytes)) = some (some (.int .u8 0), 1, 1) := by kernel_rfl
theorem Box.set {w : World} {g : Nat} {x y z : Value} (h : Box w g x y z) (x' y' z' : Value) : Box (((w.setCell ⟨g, 0, none⟩ x').setCell ⟨g, 1, none⟩ y').setCell ⟨g, 2, none⟩ z') g x' y' z' := by
  have h0 := heap_setCell_same w g 0 _ 47 x' h
  have h1 := heap_setCell_same _ g 1 _ 47 y' h0
  have h2 := heap_setCell_same _ g 2 _ 47 z' h1
  unfold Box
  rw [h2]
  simp
/-- A natural without needless limbs at the head of a block of the call's own, which is all limbs. -/
def NatS (B : Nat) (w : World) (v : Value) (n : Nat) : Prop := ∃ g r l, v = .slice (some ⟨g, 0, none⟩) l.length r.length ∧ B ≤ g ∧ Row w g r ∧ l.length ≤ r.length ∧ r.take l.length = l ∧ r.length ≤ 70368744177664 ∧ Lim r ∧ Lim l ∧ Nrm l ∧ val l = n
theorem NatS.mono {B B' : Nat} {w : World} {v : Value} {n : Nat} (h : NatS B w v n) (hB : B' ≤ B) : NatS B' w v n := by
  obtain ⟨g, r, l, h1, h2, h3⟩ := h
  exact ⟨g, r, l, h1, by omega, h3⟩
theorem NatS.keep {B : Nat} {w w' : World} {v : Value} {n : Nat} (h : NatS B w v n) (k : Keep w w') : NatS B w' v n := by
  obtain ⟨g, r, l, h1, h2, h3, h4⟩ := h
  exact ⟨g, r, l, h1, h2, h3.keep k, h4⟩
theorem len_le_pow {l : List Nat} (n : Nrm l) (k : Nat) (h : val l < 4294967296 ^ k) : l.length ≤ k := by
  rcases Nat.lt_or_ge k l.length with h1 | h1
  · have h2 := val_ge n (by intro h0; simp [h0] at h1)
    have h3 : 4294967296 ^ k ≤ 4294967296 ^ (l.length - 1) := Nat.pow_le_pow_right (by omega) (by omega)
    omega
  · exact h1
theorem Rd.drop {w : World} {b o : Nat} {l : List Nat} (h : Rd w (some ⟨b, o, none⟩) l) (k : Nat) : Rd w (some ⟨b, o + k, none⟩) (l.drop k) := by
  intro j hj
  have h1 : k + j < l.length := by simp at hj; omega
  obtain ⟨b', o', e, hc⟩ := h (k + j) h1
  simp only [Option.some.injEq, Addr.mk.injEq, and_true] at e
  obtain ⟨rfl, rfl⟩ := e
  refine ⟨b, o + k, rfl, ?_⟩
  rw [Nat.add_assoc, hc]
  simp [List.getD]
/-- Slices of limbs that a slice owns. -/
def OwnP (B : Nat) (w : World) (v : Value) (l : List Value) : Prop := w.ownsRow B 34 1 v l.length l
theorem OwnP.keep {B : Nat} {w w' : World} {v : Value} {l : List Value} (h : OwnP B w v l) (k : Keep w w') : OwnP B w' v l := by
  refine ⟨h.1, ?_⟩
  rcases h.2 with h2 | ⟨g, cap, cur, hv, hg, hh, r⟩
  · exact .inl h2
  · exact .inr ⟨g, cap, cur, hv, hg, by rw [k.block g (Array.getElem?_eq_some_iff.1 hh).1]; exact hh, r⟩
theorem OwnP.shape {B : Nat} {w : World} {v : Value} {l : List Value} (h : OwnP B w v l) : ∃ a c, v = .slice a l.length c ∧ l.length ≤ c ∧ (∀ j x, l[j]? = some x → ∃ g, a = some ⟨g, 0, none⟩ ∧ w.cell? ⟨g, j, none⟩ = some x) := by
  rcases h.2 with ⟨h1, h2⟩ | ⟨g, cap, cur, hv, hg, hh, h1, h2, h3, h4⟩
  · refine ⟨none, 0, by rw [h1, h2], by omega, fun j x hj => ?_⟩
    have := (List.getElem?_eq_some_iff.1 hj).1
    omega
  · refine ⟨some ⟨g, 0, none⟩, cap, hv, h1, ?_⟩
    intro j x hj
    have hjl := (List.getElem?_eq_some_iff.1 hj).1
    refine ⟨g, rfl, ?_⟩
    rw [cell_of_row w g j cur 34 (0, 0) hh, ← hj, ← h4]
    simp [hjl]
/-- Powers as an argument: so many of them, readable. -/
def Pw (w : World) (av : Option Addr) (k : Nat) : Prop := ∀ i, i < k → ∃ g gx cx lx, av = some ⟨g, 0, none⟩ ∧ w.cell? ⟨g, i, none⟩ = some (.slice (some ⟨gx, 0, none⟩) (List.length lx) cx) ∧ lx.length ≤ cx ∧ Rd w (some ⟨gx, 0, none⟩) lx ∧ Lim lx ∧ Nrm lx ∧ val lx = 10 ^ (288 * 2 ^ i)
theorem Pw.keep {w w' : World} {av : Option Addr} {k : Nat} (h : Pw w av k) (hk : Keep w w') : Pw w' av k := by
  intro i hi
  obtain ⟨g, gx, cx, lx, e, hc, hl, hr, r⟩ := h i hi
  exact ⟨g, gx, cx, lx, e, hk.cell hc, hl, hr.keep hk, r⟩
theorem one_step (Xk Y x r q d r' : Nat) (hY : 0 < Y) (hx : Xk = Y * q + r) (hs : r * 4294967296 + x = Y * d + r') (hr : r' < Y) : (x + 4294967296 * Xk) / Y = d + 4294967296 * q ∧ (x + 4294967296 * Xk) % Y = r' := by
  have h : x + 4294967296 * Xk = r' + Y * (d + 4294967296 * q) := by
    rw [hx, Nat.mul_add, Nat.mul_add]
    have : 4294967296 * (Y * q) = Y * (4294967296 * q) := by rw [Nat.mul_left_comm]
    omega
  constructor
  · rw [h, Nat.add_mul_div_left _ _ hY, Nat.div_eq_of_lt hr, Nat.zero_add]
  · rw [h, Nat.add_mul_mod_self_left, Nat.mod_eq_of_lt hr]
theorem drop_cons_getD (l : List Nat) (k : Nat) (h : k < l.length) : l.drop k = l.getD k 0 :: l.drop (k + 1) := by
  rw [List.drop_eq_getElem_cons h]
  simp [List.getD, h]
theorem rep_set (k d : Nat) (qs : List Nat) : (List.replicate (k + 1) 0 ++ qs).set k d = List.replicate k 0 ++ (d :: qs) := by
  rw [List.replicate_succ', List.append_assoc, List.set_append_right _ _ (by simp)]
  simp
set_option maxRecDepth 100000 in
set_option maxHeartbeats 800000 in
theorem rDivMod_one (a b : Option Addr) (ca cb : Nat) (la lb : List Nat) (w : World) (hca : la.length ≤ ca) (hcb : lb.length ≤ cb) (hla : la.length ≤ 35184372088000) (hlb : lb.length ≤ 35184372088000) (hra : Rd w a la) (hrb : Rd w b lb) (hma : Lim la) (hmb : Lim lb) (hb1 : nl lb = 1) :
    Calls Tryd.prog 82 #[.slice a la.length ca, .slice b lb.length cb] w fun e w' => ∃ vq vr lq lr, e = .returned (.tuple #[vq, vr, .int .i64 0]) ∧ Own w.heap.size w' vq lq ∧ Own w.heap.size w' vr lr ∧ Lim lq ∧ Nrm lq ∧ val lq = val la / val lb ∧ Lim lr ∧ Nrm lr ∧ val lr = val la % val lb ∧ Keep w w' := by
  have l1 := nl_le la
  have e1 : (la.take (nl la)).length = nl la := by simp; omega
  have mx := Lim_take hma (nl la)
  have vx := val_take_nl la
  have vy := val_take_nl lb
  have ny := Nrm_take lb
  have my := Lim_take hmb (nl lb)
  have e2 : (lb.take (nl lb)).length = 1 := by simp; have := nl_le lb; omega
  obtain ⟨y, hy⟩ : ∃ y, lb.take (nl lb) = [y] := List.length_eq_one_iff.1 e2
  have hN2 := fun wx (hk : Keep w wx) => rNorm_any b cb lb wx hcb hlb (hrb.keep hk)
  rw [hy] at hN2 vy ny my
  have hyl : y < 4294967296 := my y (by simp)
  have hy0 : 0 < y := by simp [Nrm] at ny; omega
  have hvy : val [y] = y := by simp [val]
  rw [hvy] at vy
  have hN1 := rNorm_any a ca la w hca hla hra
  rw [← vx, ← vy]
  generalize la.take (nl la) = x at *
  obtain ⟨n, hn⟩ : ∃ n, x.length = n := ⟨_, rfl⟩
  have hnb : n ≤ 35184372088000 := by omega
  have hnb2 : n ≤ 70368744177664 := by omega
  clear hma hmb hra hrb hca hcb hla hlb e1 e2 hy vx vy ny my hvy l1 hb1
  go_enter Tryd.func82, Tryd.ntmps82
  go_wp2_with fail
  refine hN1.mono ?_
  rintro e w1 ⟨v1, rfl, o1, k1⟩
  obtain ⟨a1, c1, rfl, hc1, r1⟩ := o1.shape
  go_wp2_with fail
  refine (hN2 _ k1).mono ?_
  rintro e w2 ⟨v2, rfl, o2, k2⟩
  obtain ⟨a2, c2, rfl, hc2, r2⟩ := o2.shape
  have r1 := r1.keep k2
  have k02 := k1.trans k2
  obtain ⟨by2, oy2, rfl, cy2⟩ := r2 0 (by simp)
  clear hN1 hN2 o1 o2
  try rw [hn]
  have Hn : Hid (x.length = n) := hn
  clear hn
  simp only [List.length_cons, List.length_nil, Nat.zero_add] at *
  go_wp2_with (at_make; refine wpList_make32 _ rfl _ _ rfl _ _ _ _ n rfl rfl rfl rfl hnb2 ?_; intro w3 hrow hk3 hsz3)
  have k03 := k02.trans hk3
  go_loopw [10, 11] (fun rv iv wr => ∃ (k r : Nat) (qs : List Nat), k ≤ n ∧ rv = .int .u64 (r : Nat) ∧ iv = .int .i64 ((k : Int) - 1) ∧ r < y ∧ Row wr w2.heap.size (List.replicate k 0 ++ qs) ∧ Hid (qs.length + k = n) ∧ Lim qs ∧ Hid (val qs = val (x.drop k) / y) ∧ Hid (r = val (x.drop k) % y) ∧ Keep w2 wr) (fun _ iv _ => (intOf iv + 1).toNat)
  case atStart => exact ⟨n, 0, [], by omega, rfl, rfl, hy0, by simpa using hrow, by show _ = _; simp, by intro z hz; simp at hz, by show _ = _; rw [List.drop_eq_nil_of_le (by rw [Hn.out]; omega)]; simp [val], by show _ = _; rw [List.drop_eq_nil_of_le (by rw [Hn.out]; omega)]; simp [val], hk3⟩
  case round =>
    obtain ⟨k, r, qs, hk, rfl, rfl, hry, hrk, hql, hmq, hvq, hvr, hkp⟩ := hrel
    by_cases hk0 : k = 0
    · subst hk0
      have hg : decide ((0 : Int) ≤ ((0 : Nat) : Int) - 1) = false := by simp
      simp only [List.replicate_zero, List.nil_append, List.drop_zero] at hrk hvq hvr
      have hN := rNorm_any (some ⟨w2.heap.size, 0, none⟩) n qs wr (by have := hql.out; omega) (by have := hql.out; omega) hrk.rd0
      have hql' : qs.length = n := by have := hql.out; omega
      rw [hql'] at hN
      have Hq : Hid (qs.length = n) := hql'
      clear hql'
      have mt := Lim_take hmq (nl qs)
      have nt := Nrm_take qs
      have vt : Hid (val (qs.take (nl qs)) = val x / y) := by show _ = _; rw [val_take_nl]; exact hvq.out
      generalize qs.take (nl qs) = tq at hN mt nt vt
      have hF := fun wx => rFrom_any r wx (by omega)
      go_wp2_with fail
      refine hN.mono ?_
      rintro e w4 ⟨v4, rfl, o4, k4⟩
      obtain ⟨a4, c4, rfl, hc4, r4⟩ := o4.shape
      clear hN
      go_wp2_with fail
      refine (hF w4).mono ?_
      rintro e w5 ⟨v5, l5, rfl, o5, m5, n5, e5, k5⟩
      have o5' := o5
      obtain ⟨a5, c5, rfl, hc5, r5⟩ := o5.shape
      go_wp2_with fail
      go_ret3
      have kk := (k02.trans hkp)
      refine ⟨_, _, _, _, rfl, (o4.keep k5).mono kk.le, o5'.mono (kk.trans k4).le, mt, nt, vt.out, m5, n5, ?_, (kk.trans k4).trans k5⟩
      rw [e5, hvr.out]
    · obtain ⟨j, rfl⟩ : ∃ j, k = j + 1 := ⟨k - 1, by omega⟩
      have hji : ((j + 1 : Nat) : Int) - 1 = (j : Int) := by omega
      rw [hji]
      obtain ⟨b1, o1, rfl, hx1⟩ := (r1.keep hkp) j (by rw [Hn.out]; omega)
      obtain ⟨z, hz⟩ : ∃ z, x.getD j 0 = z := ⟨_, rfl⟩
      have hzl : z < 4294967296 := hz ▸ Lim_getD mx _
      rw [hz] at hx1
      have cyr : wr.cell? ⟨by2, oy2, none⟩ = some (.int .u32 (y : Nat)) := by simpa using hkp.cell cy2
      have hby : by2 < w2.heap.size := World.block_lt_of_cell? w2 _ cy2
      have cyr2 : ∀ v, (wr.setCell ⟨w2.heap.size, j, none⟩ v).cell? ⟨by2, oy2, none⟩ = some (.int .u32 (y : Nat)) := fun v => ((Mut.refl w2.heap.size wr).setCell j v).cell (by show by2 ≠ _; omega) cyr
      have hor := or64' r z (by omega) hzl
      have hcu := hrk.cell j (by simp; omega)
      have hfz := hrk.frozen j
      obtain ⟨u, hu⟩ : ∃ u, (List.replicate (j + 1) 0 ++ qs).getD j 0 = u := ⟨_, rfl⟩
      rw [hu] at hcu
      clear hu
      obtain ⟨D, hD⟩ : ∃ D, r * 4294967296 + z = D := ⟨_, rfl⟩
      rw [hD] at hor
      have hdl : D / y < 4294967296 := by
        rw [Nat.div_lt_iff_lt_mul hy0, ← hD]
        have := Nat.mul_le_mul_right 4294967296 (show r + 1 ≤ y by omega)
        rw [Nat.mul_comm y] at this
        omega
      have hDl : D < 18446744073709551616 := by omega
      have hst := one_step (val (x.drop (j + 1))) y z r (val qs) (D / y) (D % y) hy0 (by rw [hvq.out, hvr.out]; exact (Nat.div_add_mod _ _).symm) (by rw [hD]; exact (Nat.div_add_mod _ _).symm) (Nat.mod_lt _ hy0)
      have hdr : val (x.drop j) = z + 4294967296 * val (x.drop (j + 1)) := by
        rw [drop_cons_getD x j (by rw [Hn.out]; omega), hz]; rfl
      rw [← hdr] at hst
      have HS : Hid (val (x.drop j) / y = D / y + 4294967296 * val qs ∧ val (x.drop j) % y = D % y) := hst
      have hyne : (y : Int) ≠ 0 := by omega
      clear hst hdr hz hD hvq hvr
      go_wp2_with fail
      go_roundw
      case rel =>
        refine ⟨j, D % y, (D / y) :: qs, by omega, by simp, by go_num, Nat.mod_lt _ hy0, ?_, ?_, ?_, ?_, HS.out.2.symm, hkp.setCell (by show _ ≤ w2.heap.size; omega) _⟩
        · have h1 := hrk.set j (D / y)
          rw [rep_set] at h1
          have e : IntKind.u64.wrap ((D : Int) / (y : Int)) % 4294967296 = ((D / y : Nat) : Int) := by
            have e0 : (D : Int) / (y : Int) = ((D / y : Nat) : Int) := by simp
            rw [e0, IntKind.wrap_u64]
            generalize D / y = E at hdl
            omega
          rw [e]; exact h1
        · have := hql.out; show _ = _; simp; omega
        · intro t ht
          simp at ht
          rcases ht with rfl | ht
          · exact hdl
          · exact hmq t ht
        · show _ = _; rw [HS.out.1]; rfl
      case measure => simp [intOf]
/-- Three words in a block of their own. -/
def Tri (w : World) (g x y z : Nat) : Prop := w.heap[g]? = some (.cells #[.int .u64 (x : Nat), .int .u64 (y : Nat), .int .u64 (z : Nat)] 124 (0, 0))
/-- Steps of Euclid's in a block of their own. -/
def Stp (w : World) (g p q r s : Nat) (t : Bool) : Prop := w.heap[g]? = some (.cells #[.int .u64 (p : Nat), .int .u64 (q : Nat), .int .u64 (r : Nat), .int .u64 (s : Nat), .bool t] 100 (0, 0))
theorem Tri.keep {w w' : World} {g x y z : Nat} (h : Tri w g x y z) (k : Keep w w') : Tri w' g x y z := by
  unfold Tri; rw [k.block g (Array.getElem?_eq_some_iff.1 h).1]; exact h
theorem Tri.cells {w : World} {g x y z : Nat} (h : Tri w g x y z) : w.cell? ⟨g, 0, none⟩ = some (.int .u64 (x : Nat)) ∧ w.cell? ⟨g, 1, none⟩ = some (.int .u64 (y : Nat)) ∧ w.cell? ⟨g, 2, none⟩ = some (.int .u64 (z : Nat)) := by
  refine ⟨?_, ?_, ?_⟩ <;> rw [cell_of_row w g _ _ 124 (0, 0) h] <;> rfl
theorem Stp.keep {w w' : World} {g p q r s : Nat} {t : Bool} (h : Stp w g p q r s t) (k : Keep w w') : Stp w' g p q r s t := by
  unfold Stp; rw [k.block g (Array.getElem?_eq_some_iff.1 h).1]; exact h
theorem Stp.cells {w : World} {g p q r s : Nat} {t : Bool} (h : Stp w g p q r s t) : w.cell? ⟨g, 0, none⟩ = some (.int .u64 (p : Nat)) ∧ w.cell? ⟨g, 1, none⟩ = some (.int .u64 (q : Nat)) ∧ w.cell? ⟨g, 2, none⟩ = some (.int .u64 (r : Nat)) ∧ w.cell? ⟨g, 3, none⟩ = some (.int .u64 (s : Nat)) ∧ w.cell? ⟨g, 4, none⟩ = some (.bool t) := by
  refine ⟨?_, ?_, ?_, ?_, ?_⟩ <;> rw [cell_of_row w g _ _ 100 (0, 0) h] <;> rfl
/-- The natural that a slice of limbs says in a world. -/
def limbsAt (w : World) : Value → Nat
  | .slice (some a) n _ => val ((List.range n).map fun j => match w.cell? ⟨a.block, a.off + j, none⟩ with | some (.int .u32 x) => x.toNat | _ => 0)
  | _ => 0
theorem limbsAt_eq {w : World} {a : Option Addr} {l : List Nat} {c : Nat} (h : Rd w a l) : limbsAt w (.slice a l.length c) = val l := by
  by_cases h0 : l = []
  · subst h0
    cases a <;> simp [limbsAt, val]
  · obtain ⟨b, o, rfl, -⟩ := h 0 (List.length_pos_iff.2 h0)
    simp only [limbsAt]
    congr 1
    refine List.ext_getElem (by simp) ?_
    intro j h1 h2
    obtain ⟨b', o', e, hc⟩ := h j h2
    simp only [Option.some.injEq, Addr.mk.injEq, and_true] at e
    obtain ⟨rfl, rfl⟩ := e
    simp [hc, List.getD, h2]
theorem val_pos {l : List Nat} (hn : Nrm l) (h : l ≠ []) : 0 < val l := by
  have h1 := val_ge hn h
  have h2 : 0 < 4294967296 ^ (l.length - 1) := Nat.pos_of_ne_zero (by simp)
  omega
theorem val_len {a b : List Nat} (hma : Lim a) (hnb : Nrm b) (h : val b ≤ val a) : b.length ≤ a.length := by
  rcases Nat.lt_or_ge a.length b.length with h1 | h1
  · have := len_lt_val hma hnb h1; omega
  · exact h1
/-- A slice that owns its bytes (made by append). -/
def Own8 (B : Nat) (w : World) (v : Value) (l : List Nat) : Prop := w.ownsRow B 5 1 v l.length (V8 l)
theorem Own8.keep {B : Nat} {w w' : World} {v : Value} {l : List Nat} (h : Own8 B w v l) (k : Keep w w') : Own8 B w' v l := by
  refine ⟨h.1, ?_⟩
  rcases h.2 with h2 | ⟨g, cap, cur, hv, hg, hh, r⟩
  · exact .inl h2
  · exact .inr ⟨g, cap, cur, hv, hg, by rw [k.block g (Array.getElem?_eq_some_iff.1 hh).1]; exact hh, r⟩
theorem Own8.shape {B : Nat} {w : World} {v : Value} {l : List Nat} (h : Own8 B w v l) : ∃ a c, v = .slice a l.length c ∧ l.length ≤ c ∧ (∀ j, j < l.length → ∃ g, a = some ⟨g, 0, none⟩ ∧ w.cell? ⟨g, j, none⟩ = some (.int .u8 (l.getD j 0 : Nat))) := by
  rcases h.2 with ⟨h1, h2⟩ | ⟨g, cap, cur, hv, hg, hh, h1, h2, h3, h4⟩
  · exact ⟨none, 0, by rw [h1, h2], by omega, fun j hj => by omega⟩
  · refine ⟨some ⟨g, 0, none⟩, cap, hv, h1, ?_⟩
    intro j hj
    refine ⟨g, rfl, ?_⟩
    rw [cell_of_row w g j cur 5 (0, 0) hh, ← V8_get l j hj, ← h4]
    simp [hj]
/-- Blocks of limbs are left as they were. -/
def Blocks62 (w w' : World) : Prop := ∀ (g : Nat) (cs : Array Value) (f : Nat × Nat), w.heap[g]? = some (Obj.cells cs 70 f) → w'.heap[g]? = some (Obj.cells cs 70 f)
theorem Own.blocks {B : Nat} {w w' : World} {v : Value} {l : List Nat} (h : Own B w v l) (k : Blocks62 w w') : Own B w' v l := by
  refine ⟨h.1, ?_⟩
  rcases h.2 with h2 | ⟨g, cap, cur, hv, hg, hh, r⟩
  · exact .inl h2
  · exact .inr ⟨g, cap, cur, hv, hg, k g _ _ hh, r⟩
/-- back = append(back, x). -/
theorem wpList_app8 {w0 wr : World} {ops : Array Oper} {rest : List Oper} {o : Oper} {a : Act} {Q : Exit → Act → World → Prop} (hgd : o.guard = none) (s x : Operand)
    (ho : o.op = .call { callee := .builtin .append, args := #[s, x], argTypes := #[95, 95] }) (l : List Nat) (v : Value) (hs : a.eval s = v) (Y : Int) (y : Nat) (hY : Y = (y : Int))
    (hx : a.eval x = .slice (some ⟨wr.heap.size, 0, none⟩) 1 1) (hown : Own8 w0.heap.size wr v l) (hk : Keep w0 wr) (hlen : l.length < 35184372088832)
    (hK : ∀ v' w1, Own8 w0.heap.size w1 v' (l ++ [y]) → Keep w0 w1 → Blocks62 wr w1 → wpList Tryd.prog ops Q rest (a.put o.dst v') w1) :
    wpList Tryd.prog ops Q (o :: rest) a (wr.alloc (.cells #[.int .u8 Y] 5)) := by
  obtain ⟨i0, hi, hz0, hz1, hz2⟩ := info_parts i5
  subst hY
  refine wpList_append_own _ hgd s x 95 ho w0.heap.size 5 i0 (.int .u8 0) 1 1 Tryd.underlying95 hi hz0 hz1 hz2 rfl (by decide) v _ _ hs (hown.alloc _) ⟨wr.heap.size, 0, none⟩ 1 1 [.int .u8 (y : Int)] hx rfl ?_ ?_ ?_ ?_ ?_ ?_
  · intro j u hj
    match j, hj with
    | 0, hj => simp at hj; subst hj; simp [Addr.add]
  · intro u hu; simp at hu; subst hu; rfl
  · simp only [maxLen]; omega
  · omega
  · have := hk.le; simp; omega
  · intro v' w1 h1 h2 _
    refine hK v' w1 ?_ ?_ ?_
    · unfold Own8; simpa [V8] using h1
    · refine Below.grown (hk.alloc _) h2 (by have := hk.le; simp; omega) ?_
      intro k hk'
      have := hown.lt k hk'
      exact this.1
    · intro g cs f hg
      have hlt : g < wr.heap.size := (Array.getElem?_eq_some_iff.1 hg).1
      have h3 : (wr.alloc (.cells #[.int .u8 (y : Int)] 5)).heap[g]? = some (.cells cs 70 f) := by
        rw [((Keep.refl wr).alloc (.cells #[.int .u8 (y : Int)] 5)).block g hlt]; exact hg
      have hne : some g ≠ v.ownBlock := by
        intro he
        rcases hown.2 with ⟨h4, -⟩ | ⟨g', cap, cur, h4, -, hh, -⟩
        · rw [h4] at he; cases he
        · rw [h4] at he
          have he : some g = some g' := he
          simp only [Option.some.injEq] at he
          subst he
          rw [hh] at hg
          simp at hg
      rw [h2.block g (Array.getElem?_eq_some_iff.1 h3).1 hne]
      exact h3
/-- A natural's digits, the lowest first. -/
def rdig (n : Nat) : List Nat := if h : n = 0 then [] else (48 + n % 10) :: rdig (n / 10)
termination_by n
decreasing_by omega
theorem rdig_zero : rdig 0 = [] := by rw [rdig]; simp
theorem rdig_pos {n : Nat} (h : 0 < n) : rdig n = (48 + n % 10) :: rdig (n / 10) := by rw [rdig]; simp; omega
theorem rdig_len : ∀ (N V : Nat), V < 10 ^ N → (rdig V).length ≤ N
  | 0, V, h => by
    have : V = 0 := by simp at h; omega
    subst this; rw [rdig_zero]; simp
  | N + 1, V, h => by
    by_cases h0 : V = 0
    · subst h0; rw [rdig_zero]; simp
    · rw [rdig_pos (by omega), List.length_cons]
      have := rdig_len N (V / 10) (by rw [Nat.pow_succ] at h; omega)
      omega
theorem cut0_snoc (A : List Nat) (d : Nat) (h : cut0 A ≠ []) : cut0 (A ++ [d]) = cut0 A ++ [d] := by
  unfold cut0 at *
  induction A with
  | nil => simp at h
  | cons x xs ih =>
    rw [List.cons_append, List.dropWhile_cons, List.dropWhile_cons] at *
    split
    · rename_i hx
      rw [if_pos hx] at h
      exact ih h
    · rfl
theorem cut0_all (A : List Nat) (d : Nat) (h : cut0 A = []) : cut0 (A ++ [d]) = cut0 [d] := by
  unfold cut0 at *
  induction A with
  | nil => rfl
  | cons x xs ih =>
    rw [List.dropWhile_cons] at h
    split at h
    · rename_i hx
      rw [List.cons_append, List.dropWhile_cons, if_pos hx]
      exact ih h
    · simp at h
theorem rdig_dw : ∀ (k n : Nat), 0 < n → n < 10 ^ k → cut0 (dw k n) = (rdig n).reverse
  | 0, n, h, h1 => by simp at h1; omega
  | k + 1, n, h, h1 => by
    rw [dw, rdig_pos h, List.reverse_cons]
    by_cases h0 : n / 10 = 0
    · rw [h0, rdig_zero, cut0_all _ _ (cut0_zero k)]
      have : 48 + n % 10 ≠ 48 := by omega
      simp [cut0, List.dropWhile_cons]
      omega
    · have hp : 0 < n / 10 := by omega
      have hlt : n / 10 < 10 ^ k := by rw [Nat.pow_succ] at h1; omega
      rw [cut0_snoc _ _ (cut0_ne _ _ hp hlt), rdig_dw k (n / 10) hp hlt]
theorem rdig_dec {n : Nat} (h : 0 < n) : (rdig n).reverse = dec n := by
  unfold dec
  rw [if_neg (by omega), rdig_dw n n h (lt_pow n)]
theorem rdig_step (q n e : Nat) (h : 0 < q * 10 ^ (e + 1) + n) : rdig (q * 10 ^ (e + 1) + n) = (48 + n % 10) :: rdig (q * 10 ^ e + n / 10) := by
  rw [rdig_pos h]
  have e1 : q * 10 ^ (e + 1) = 10 * (q * 10 ^ e) := by rw [Nat.pow_succ, ← Nat.mul_assoc, Nat.mul_comm]
  rw [e1]
  congr 2 <;> omega
theorem B_ten (n : Nat) : 4294967296 ^ n ≤ 10 ^ (10 * n) := by
  rw [Nat.pow_mul]
  exact Nat.pow_le_pow_left (by decide) _
set_option maxRecDepth 100000 in
set_option maxHeartbeats 1600000 in
theorem rPrint_any (a : Option Addr) (ca : Nat) (la : List Nat) (w : World) (hca : la.length ≤ ca) (hla : la.length ≤ 1048576) (hra : Rd w a la) (hma : Lim la) :
    Calls Tryd.prog 50 #[.slice a la.length ca] w fun e w' => e = .returned (.string (S8 (dec (val la)))) ∧ Keep w w' := by
  have l1 := nl_le la
  have e1 : (la.take (nl la)).length ≤ 1048576 := by simp; omega
  have mx := Lim_take hma (nl la)
  have nx := Nrm_take la
  have vx := val_take_nl la
  have hN1 := rNorm_any a ca la w hca (by omega) hra
  rw [← vx]
  generalize la.take (nl la) = x at *
  clear vx l1 hra hma hca hla
  have hz1 : (fun (wx : World) => True) w := trivial
  clear hz1
  by_cases hx0 : x = []
  · subst hx0
    go_enter Tryd.func50, Tryd.ntmps50
    go_wp2_with fail
    refine hN1.mono ?_
    rintro e w1 ⟨v1, rfl, o1, k1⟩
    obtain ⟨a1, c1, rfl, hc1, r1⟩ := o1.shape
    go_wp2_with fail
    go_ret
    exact ⟨rfl, k1⟩
  · have hl0 : 0 < x.length := List.length_pos_iff.2 hx0
    have hV0 : 0 < val x := val_pos nx hx0
    have hVl : (rdig (val x)).length ≤ 10485760 := Nat.le_trans (rdig_len (10 * x.length) _ (Nat.lt_of_lt_of_le (val_lt mx) (B_ten x.length))) (by omega)
    have hdec := rdig_dec hV0
    obtain ⟨V, hV⟩ : ∃ V, val x = V := ⟨_, rfl⟩
    rw [hV] at hV0 hVl hdec ⊢
    have HD : Hid ((rdig V).reverse = dec V) := hdec
    have HV : Hid (val x = V) := hV
    have hg0 : ((x.length : Int) == 0) = false := by simp; omega
    have HV0 : Hid (0 < V) := hV0
    clear hdec hV hV0
    go_enter Tryd.func50, Tryd.ntmps50
    go_wp2_with fail
    refine hN1.mono ?_
    rintro e w1 ⟨v1, rfl, o1, k1⟩
    have o1' := o1
    obtain ⟨a1, c1, rfl, hc1, r1⟩ := o1.shape
    clear hN1
    go_wp2_with fail
    go_loopw [3, 4] (fun xv bv wr => ∃ (lx bk : List Nat), Own w.heap.size wr xv lx ∧ Lim lx ∧ Nrm lx ∧ lx.length ≤ 1048576 ∧ Own8 w.heap.size wr bv bk ∧ Hid (bk ++ rdig (val lx) = rdig V) ∧ Keep w wr) (fun xv _ wr => limbsAt wr xv)
    case atStart => exact ⟨x, [], o1', mx, nx, e1, World.ownsRow_nil _ _ _ _, by show _ = _; rw [HV.out]; rfl, k1⟩
    case round =>
      clear mx nx e1 hx0 hl0 o1 o1' r1 hc1
      obtain ⟨lx, bk, ox, mx, nx, hlx, ob, hbk, hkp⟩ := hrel
      obtain ⟨wo, hwo⟩ : ∃ wo, wo = wr := ⟨_, rfl⟩
      subst hwo
      have ox' := ox
      have ob' := ob
      obtain ⟨ax, cx, rfl, hcx, rx⟩ := ox.shape
      obtain ⟨ab, cb, rfl, hcb, rb⟩ := ob.shape
      have hms := limbsAt_eq (c := cx) rx
      by_cases h0 : lx = []
      · subst h0
        have hb : bk = rdig V := by
          have := hbk.out
          rw [show val [] = 0 from rfl, rdig_zero, List.append_nil] at this
          exact this
        subst hb
        have hbl : (rdig V).length ≤ 10485760 := hVl
        generalize hbe : rdig V = bs at *
        clear hbk hms hVl
        simp only [List.length_nil] at *
        go_wp2_with fail
        go_loopw [11, 12] (fun ov iv wr => ∃ (k : Nat) (os : List Nat), k ≤ bs.length ∧ iv = .int .i64 ((k : Int) - 1) ∧ Own8 wo.heap.size wr ov os ∧ Hid (os = (bs.drop k).reverse) ∧ Keep wo wr) (fun _ iv _ => (intOf iv + 1).toNat)
        case atStart => exact ⟨bs.length, [], by omega, by simp, World.ownsRow_nil _ _ _ _, by show _ = _; simp, Keep.refl _⟩
        case round =>
          obtain ⟨k, os, hk, rfl, oo, hos, hkx⟩ := hrel
          have oo' := oo
          obtain ⟨ao, co, rfl, hco, ro⟩ := oo.shape
          by_cases hk0 : k = 0
          · subst hk0
            have hg : decide ((0 : Int) ≤ ((0 : Nat) : Int) - 1) = false := by simp
            have ho1 : os = bs.reverse := by have := hos.out; simpa using this
            have Hos : Hid (os = dec V) := by show _ = _; rw [ho1]; exact HD.out
            have hpos : 0 < os.length := by rw [ho1, ← hbe, rdig_pos HV0.out]; simp
            obtain ⟨g, rfl, -⟩ := ro 0 hpos
            have hcv : (convert 95 9 (.slice (some ⟨g, 0, none⟩) os.length co)).run Tryd.prog wr = .ok (.string (S8 os)) wr := by
              have := run_convert_bytes_arg (P := Tryd.prog) wr 95 5 Tryd.underlying95 Tryd.underlying5 g 0 os.length co (os.map (fun x : Nat => (x : Int))) (by simp) (fun i hi => by
                obtain ⟨g', e, hc⟩ := ro i hi
                simp only [Option.some.injEq, Addr.mk.injEq, and_true] at e
                rw [e, Nat.zero_add, hc]; simp [List.getD, hi]) 9 Tryd.underlying9
              rw [this]
              simp [strOfNums, S8]
            clear ho1 hos hbe
            go_wp2_with fail
            go_ret
            exact ⟨by rw [← Hos.out]; rfl, hkp.trans hkx⟩
          · obtain ⟨j, rfl⟩ : ∃ j, k = j + 1 := ⟨k - 1, by omega⟩
            have hji : ((j + 1 : Nat) : Int) - 1 = (j : Int) := by omega
            rw [hji]
            obtain ⟨gb, rfl, hcj⟩ := rb j (by omega)
            have hcj := hkx.cell hcj
            obtain ⟨z, hz⟩ : ∃ z, bs.getD j 0 = z := ⟨_, rfl⟩
            rw [hz] at hcj
            have Hn : Hid (os ++ [z] = (bs.drop j).reverse) := by
              show _ = _
              rw [drop_cons_getD bs j (by omega), List.reverse_cons, hz, hos.out]
            have hol : os.length < 35184372088832 := by rw [hos.out]; simp; omega
            clear hz hos
            go_wp2_with (at_builtin; refine wpList_app8 rfl _ _ rfl os _ rfl _ z ?_ rfl oo' hkx hol ?_; rotate_left; intro v' w1' hown' hk' _)
            go_roundw
            case rel => exact ⟨j, _, by omega, by go_num, hown', Hn, hk'⟩
            case measure => simp [intOf]
            all_goals (first | rfl | simp)
      · have hl0 : 0 < lx.length := List.length_pos_iff.2 h0
        have hx0 : 0 < val lx := val_pos nx h0
        have hkA : Keep wo (wo.alloc (Obj.cells #[Value.int IntKind.u32 1000000000] 70)) := (Keep.refl wo).alloc _
        have hcA : (wo.alloc (Obj.cells #[Value.int IntKind.u32 1000000000] 70)).cell? ⟨wo.heap.size, 0, none⟩ = some (.int .u32 1000000000) := by
          have h1 : (wo.alloc (Obj.cells #[Value.int IntKind.u32 1000000000] 70)).heap[wo.heap.size]? = some (Obj.cells #[Value.int IntKind.u32 1000000000] 70 (0, 0)) := heap_alloc_new wo _
          rw [cell_of_row _ _ 0 _ 70 (0, 0) h1]; rfl
        go_wp2_with fail
        generalize wo.alloc _ = w2 at hkA hcA ⊢
        have hrA : Rd w2 (some ⟨wo.heap.size, 0, none⟩) [1000000000] := by
          intro j hj
          obtain rfl : j = 0 := by simp at hj; omega
          exact ⟨_, _, rfl, hcA⟩
        have hD := rDivMod_one ax (some ⟨wo.heap.size, 0, none⟩) cx 1 lx [1000000000] w2 hcx (by simp) (by omega) (by simp) (rx.keep hkA) hrA mx (by intro z hz; simp at hz; omega) (by decide)
        rw [show val [1000000000] = 1000000000 from rfl] at hD
        refine hD.mono ?_
        rintro e w3 ⟨vq, vr, lq, lr, rfl, oq, or3, mq, nq, eq, mr, nr, er, k3⟩
        clear hD
        have oq' := oq
        obtain ⟨aq, cq, rfl, hcq, rq⟩ := oq.shape
        obtain ⟨ar, cr, rfl, hcr, rr⟩ := or3.shape
        have hr9 : val lr < 1000000000 := by rw [er]; exact Nat.mod_lt _ (by omega)
        have hlr : lr.length ≤ 1 := len_le_pow nr 1 (by omega)
        have hS := rSmall_any ar cr lr w3 hcr (by omega) rr mr
        have hsv : smallV lr = val lr := by
          unfold smallV
          rw [if_pos (by have := nl_le lr; omega)]
        rw [hsv] at hS
        have kA3 := hkA.trans k3
        have hqlt : val lq < val lx := by rw [eq]; omega
        have hlq : lq.length ≤ lx.length := val_len mx nq (by omega)
        have hsplit : val lx = val lq * 10 ^ 9 + val lr := by
          rw [eq, er, show (10 : Nat) ^ 9 = 1000000000 from rfl]; omega
        have Hsp : Hid (bk ++ rdig (val lq * 10 ^ 9 + val lr) = rdig V) := by show _ = _; rw [← hsplit]; exact hbk.out
        have hbkl : bk.length ≤ 10485760 := by
          have := congrArg List.length hbk.out
          rw [List.length_append] at this
          omega
        have HQ : Hid (val lq < val lx) := hqlt
        clear hsplit hsv er eq hbk
        go_wp2_with fail
        refine hS.mono ?_
        rintro e w4 ⟨rfl, k4⟩
        clear hS
        have k14 := kA3.trans k4
        have hk4 := hkp.trans k14
        have ob4 := ob'.keep k14
        have oq4 : Own w.heap.size w4 (.slice aq lq.length cq) lq := (oq'.keep k4).mono (hkp.trans hkA).le
        generalize smallB lr = sb
        generalize val lr = n0 at hr9 Hsp ⊢
        go_wp2_with fail
        go_loopw [4, 8, 10] (fun bv nv iv wr => ∃ (i n : Nat) (bj : List Nat), i ≤ 9 ∧ iv = .int .i64 i ∧ nv = .int .u64 n ∧ n ≤ 1000000000 ∧ Hid (n < 10 ^ (9 - i)) ∧ Own8 w.heap.size wr bv bj ∧ Hid (bj ++ rdig (val lq * 10 ^ (9 - i) + n) = rdig V) ∧ Own w.heap.size wr (.slice aq lq.length cq) lq ∧ Keep w wr) (fun _ _ iv _ => 9 - (intOf iv).toNat)
        case atStart => exact ⟨0, n0, bk, by omega, rfl, rfl, by omega, by show _ < _; exact hr9, ob4, Hsp, oq4, hk4⟩
        case round =>
          obtain ⟨i, n, bj, hi, rfl, rfl, hn9, hnl, obj, hbj, oqx, hkx⟩ := hrel
          have obj' := obj
          obtain ⟨abj, cbj, rfl, hcbj, rbj⟩ := obj.shape
          have hbjl : bj.length < 35184372088832 := by
            have := congrArg List.length hbj.out
            rw [List.length_append] at this
            omega
          by_cases hgo : i < 9 ∧ (0 < n ∨ 0 < lq.length)
          · obtain ⟨h9, hor⟩ := hgo
            obtain ⟨e, he⟩ : ∃ e, 9 - i = e + 1 := ⟨8 - i, by omega⟩
            have hpos : 0 < val lq * 10 ^ (9 - i) + n := by
              rcases hor with h | h
              · omega
              · have h1 := val_pos nq (List.length_pos_iff.1 h)
                have h2 : 0 < 10 ^ (9 - i) := Nat.pos_of_ne_zero (by simp)
                have := Nat.mul_pos h1 h2
                omega
            have Hb : Hid ((bj ++ [48 + n % 10]) ++ rdig (val lq * 10 ^ (9 - (i + 1)) + n / 10) = rdig V) := by
              show _ = _
              have h1 := hbj.out
              rw [he] at h1 hpos
              rw [rdig_step _ _ _ hpos] at h1
              rw [show 9 - (i + 1) = e by omega, List.append_assoc]
              exact h1
            have Hl : Hid (n / 10 < 10 ^ (9 - (i + 1))) := by
              show _ < _
              have h1 : n < 10 ^ (9 - i) := hnl
              rw [he, Nat.pow_succ] at h1
              rw [show 9 - (i + 1) = e by omega]
              omega
            have hg1 : decide ((i : Int) < 9) = true := by simp; omega
            have hwv : (48 + (n : Int) % 10) % 256 = ((48 + n % 10 : Nat) : Int) := by omega
            clear hbj hnl hpos he
            by_cases hn0 : 0 < n
            · have hg2 : decide ((0 : Int) < (n : Int)) = true := by simp; omega
              clear hor
              go_wp2_with (at_builtin; refine wpList_app8 rfl _ _ rfl bj _ rfl _ (48 + n % 10) ?_ rfl obj' hkx hbjl ?_; rotate_left; intro v' w1' hown' hk' hb62)
              go_roundw
              case rel => exact ⟨i + 1, n / 10, _, by omega, by go_num, by simp, by omega, Hl, hown', Hb, oqx.blocks hb62, hk'⟩
              case measure => simp [intOf]; omega
              all_goals (first | rfl | (simp; omega) | simp)
            · have hg2 : decide ((0 : Int) < (n : Int)) = false := by simp; omega
              have hg4 : 0 < lq.length := by omega
              have hg3 : decide ((0 : Int) < (lq.length : Int)) = true := decide_eq_true (by omega)
              clear hor
              go_wp2_with (at_builtin; refine wpList_app8 rfl _ _ rfl bj _ rfl _ (48 + n % 10) ?_ rfl obj' hkx hbjl ?_; rotate_left; intro v' w1' hown' hk' hb62)
              go_roundw
              case rel => exact ⟨i + 1, n / 10, _, by omega, by go_num, by simp, by omega, Hl, hown', Hb, oqx.blocks hb62, hk'⟩
              case measure => simp [intOf]; omega
              all_goals (first | rfl | (simp; omega) | simp)
          · have hend : val lq * 10 ^ (9 - i) + n = val lq := by
              by_cases h9 : i = 9
              · subst h9
                have : n < 10 ^ (9 - 9) := hnl
                simp at this
                simp; omega
              · have hn0 : n = 0 := by omega
                have hq0 : lq = [] := List.eq_nil_of_length_eq_zero (by omega)
                subst hq0
                rw [hn0]; simp [val]
            have Hb : Hid (bj ++ rdig (val lq) = rdig V) := by show _ = _; rw [← hend]; exact hbj.out
            obtain ⟨aq2, cq2, eq2, hcq2, rq2⟩ := oqx.shape
            simp only [Value.slice.injEq, true_and] at eq2
            obtain ⟨rfl, rfl⟩ := eq2
            have hms2 := limbsAt_eq (c := cq) rq2
            have HM : Hid (limbsAt wr (.slice aq lq.length cq) < limbsAt wo (.slice ax lx.length cx)) := by show _ < _; rw [hms2, hms]; exact HQ.out
            clear hend hbj hnl hms hms2
            by_cases h9 : i < 9
            · have hg1 : decide ((i : Int) < 9) = true := by simp; omega
              have hg2 : decide ((0 : Int) < (n : Int)) = false := by simp; omega
              have hg4 : lq.length = 0 := by omega
              have hg3 : decide ((0 : Int) < (lq.length : Int)) = false := decide_eq_false (by omega)
              have oq0 : Own w.heap.size wr (.slice aq 0 cq) lq := by have := oqx; rw [hg4] at this; exact this
              have HM0 : Hid (limbsAt wr (.slice aq 0 cq) < limbsAt wo (.slice ax lx.length cx)) := by have := HM.out; rw [hg4] at this; exact this
              go_wp2_with fail
              go_roundw
              case rel => exact ⟨lq, bj, oq0, mq, nq, by omega, obj', Hb, hkx⟩
              case measure => exact HM0.out
            · have hg1 : decide ((i : Int) < 9) = false := by simp; omega
              go_wp2_with fail
              go_roundw
              case rel => exact ⟨lq, bj, oqx, mq, nq, by omega, obj', Hb, hkx⟩
              case measure => exact HM.out
end Go.Proofs.YtckceokgeainlaaDoor
