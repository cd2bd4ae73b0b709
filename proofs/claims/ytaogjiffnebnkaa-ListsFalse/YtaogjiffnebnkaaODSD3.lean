import Derived.Test.YtaogjiffnebnkaaProg
import Derived.Test.YtaogjiffnebnkaaFl
import Derived.Test.YtaogjiffnebnkaaV7
import Derived.Test.YtaogjiffnebnkaaU2
import Ieee.Arith
import Derived.WalkKit
import Derived.WalkSpells
import Derived.WalkLawsBesides
import Derived.Deep.Draws
import Derived.Deep.QuietTactic
import Derived.BigQuiet
import Derived.Laws.Externs
import Derived.RegionTactic
import Derived.Laws.Rows
import Derived.Shelf.SlSortCmp.Whole1
import Derived.Ground.SlsfProg
import Derived.Laws.CopyOwn
import Derived.Deep.RegionLaw
import Derived.Shelf.Abstract
import Derived.Below
import Derived.BigRegion
import Derived.Maps.OwnSet
import Derived.Maps.RangeWalk
set_option linter.unusedVariables false
set_option linter.unusedSimpArgs false
namespace Go.Proofs.Ytaogjiffnebnkaa
open Go.RowKit
theorem ret_int {k : IntKind} {a b : Int} (h : a = b) : Ending.returned (.int k a) = .returned (.int k b) := by rw [h]
end Go.Proofs.Ytaogjiffnebnkaa
set_option linter.unusedVariables false
set_option linter.unusedSimpArgs false
namespace Go.Proofs.Ytaogjiffnebnkaa
open Go.RowKit
/-- The bits of a key's number; of a NaN's key 'n'. -/
def atB (n k : Nat) : Nat := if 18437736874454810625 < k then 0 else if k = 18437736874454810625 then n else if k < 9218868437227405312 then 18442240474082181120 - k else k - 9218868437227405312
end Go.Proofs.Ytaogjiffnebnkaa
set_option linter.unusedVariables false
set_option linter.unusedSimpArgs false
namespace Go.Proofs.Ytaogjiffnebnkaa
open Go.RowKit
/-- -1, 0 or 1. -/
def cmpV (a b : Nat) : Int := if a < b then -1 else if b < a then 1 else 0
theorem cmpNaN (x : Nat) (w : World) : Calls Try.prog 88 #[.int .u64 (x : Nat)] w fun e w' => e = .returned (.bool false) ∧ w' = w := by
  go_enter Try.func88, Try.ntmps88
  go_wp2
  go_ret
  exact ⟨rfl, rfl⟩
theorem cmp_any (a b : Nat) (w : World) : Calls Try.prog 75 #[.int .u64 (a : Nat), .int .u64 (b : Nat)] w fun e w' => e = .returned (.int .i64 (cmpV a b)) ∧ w' = w := by
  rcases Nat.lt_trichotomy a b with h | h | h
  · have Hv : Hid (cmpV a b = -1) := by show cmpV a b = -1; unfold cmpV; rw [if_pos h]
    have a1 : decide ((a : Int) < (b : Int)) = true := by rw [decide_eq_true_eq]; omega
    go_enter Try.func75, Try.ntmps75
    go_wp2_with (go_at_call 88; refine (cmpNaN _ _).mono ?_; rintro e w' ⟨rfl, rfl⟩)
    go_ret
    exact ⟨ret_int Hv.out.symm, rfl⟩
  · subst h
    have Hv : Hid (cmpV a a = 0) := by show cmpV a a = 0; unfold cmpV; rw [if_neg (by omega), if_neg (by omega)]
    have a1 : decide ((a : Int) < (a : Int)) = false := by rw [decide_eq_false_iff_not]; omega
    go_enter Try.func75, Try.ntmps75
    go_wp2_with (go_at_call 88; refine (cmpNaN _ _).mono ?_; rintro e w' ⟨rfl, rfl⟩)
    go_ret
    exact ⟨ret_int Hv.out.symm, rfl⟩
  · have Hv : Hid (cmpV a b = 1) := by show cmpV a b = 1; unfold cmpV; rw [if_neg (by omega), if_pos h]
    have a1 : decide ((a : Int) < (b : Int)) = false := by rw [decide_eq_false_iff_not]; omega
    have a2 : decide ((b : Int) < (a : Int)) = true := by rw [decide_eq_true_eq]; omega
    go_enter Try.func75, Try.ntmps75
    go_wp2_with (go_at_call 88; refine (cmpNaN _ _).mono ?_; rintro e w' ⟨rfl, rfl⟩)
    go_ret
    exact ⟨ret_int Hv.out.symm, rfl⟩
theorem Compare_any (x y : Nat) (w : World) (hx : x < 18446744073709551616) (hy : y < 18446744073709551616) :
    Calls Try.prog 71 #[.float .f64 x, .float .f64 y] w fun e w' => e = .returned (.int .i64 (cmpV (key x) (key y))) ∧ w' = w := by
  go_enter Try.func71, Try.ntmps71
  go_wp2_with first
    | (go_at_call 55; refine (Key_any _ _ (by assumption)).mono ?_; rintro e w' ⟨rfl, rfl⟩)
    | (go_at_call 75; refine (cmp_any _ _ _).mono ?_; rintro e w' ⟨rfl, rfl⟩)
  go_ret
  exact ⟨rfl, rfl⟩
theorem key_nan_iff (x : Nat) : decide (isNaN x) = decide (key x = 18437736874454810625) := by
  rw [decide_eq_decide]
  unfold isNaN key
  split
  · simp only [*]
  · split <;> omega
end Go.Proofs.Ytaogjiffnebnkaa
set_option linter.unusedVariables false
set_option linter.unusedSimpArgs false
namespace Go.Proofs.Ytaogjiffnebnkaa
open Go.RowKit
/-- Numbers as they lie in a row that is sorted: at its beginning, perhaps with room behind. -/
def Arr (w : World) (g : Nat) (l : List Nat) : Prop := ∃ cur : Array Value, w.heap[g]? = some (.cells cur 34 (0, 0)) ∧ cur.toList.take l.length = l.map fun x => Value.float .f64 x
theorem Arr.cell {w : World} {g : Nat} {l : List Nat} (h : Arr w g l) {j : Nat} (hj : j < l.length) : w.cell? ⟨g, j, none⟩ = some (.float .f64 (l.getD j 0)) := by
  obtain ⟨cur, h1, h2⟩ := h
  have e : cur.toList[j]? = (l.map fun x => Value.float .f64 x)[j]? := by rw [← h2, List.getElem?_take, if_pos hj]
  rw [cell_of_row w g j cur 34 (0, 0) h1]
  have : cur[j]? = cur.toList[j]? := by simp
  rw [this, e]
  simp [List.getD, hj]
theorem Arr.frozen {w : World} {g : Nat} {l : List Nat} (h : Arr w g l) (j : Nat) : w.frozen? ⟨g, j, none⟩ = false := by
  obtain ⟨cur, h1, -⟩ := h
  exact frozen_of_row w g j cur 34 h1
/-- All but one block as it was. -/
structure Oth (g : Nat) (w w' : World) : Prop where
  os : w'.os = w.os
  tape : w'.tape = w.tape
  output : w'.output = w.output
  size : w'.heap.size = w.heap.size
  block : ∀ k, k ≠ g → w'.heap[k]? = w.heap[k]?
theorem Oth.refl (g : Nat) (w : World) : Oth g w w := ⟨rfl, rfl, rfl, rfl, fun _ _ => rfl⟩
theorem Oth.trans {g : Nat} {a b c : World} (h : Oth g a b) (k : Oth g b c) : Oth g a c := ⟨k.os.trans h.os, k.tape.trans h.tape, k.output.trans h.output, k.size.trans h.size, fun j hj => (k.block j hj).trans (h.block j hj)⟩
end Go.Proofs.Ytaogjiffnebnkaa
set_option linter.unusedVariables false
set_option linter.unusedSimpArgs false
namespace Go.Proofs.Ytaogjiffnebnkaa
open Go.RowKit
attribute [local go_sem] run_store_float
abbrev cmpF : Value := .func (.func 71) #[] #[]
end Go.Proofs.Ytaogjiffnebnkaa
set_option linter.unusedVariables false
set_option linter.unusedSimpArgs false
namespace Go.Proofs.Ytaogjiffnebnkaa
open Go.RowKit
attribute [local go_sem] run_store_float
/-- The key of a number, as a whole number. -/
def kI (x : Nat) : Int := ((key x : Nat) : Int)
def F64 (l : List Nat) : Prop := ∀ x ∈ l, x < 18446744073709551616
theorem F64.at {l : List Nat} (h : F64 l) (i : Nat) (hi : i < l.length) : l.getD i 0 < 18446744073709551616 := h _ (by simp [List.getD, hi])
/-- Whether one comes ahead of another, as the program asks it. -/
theorem cmpI_lt (x y : Nat) : decide (cmpV (key x) (key y) < 0) = decide (kI x < kI y) := by
  unfold cmpV kI
  by_cases h : key x < key y
  · rw [if_pos h]; simp; exact h
  · rw [if_neg h]
    have : ¬ ((key x : Nat) : Int) < ((key y : Nat) : Int) := by omega
    rw [decide_eq_false this]
    split <;> decide
end Go.Proofs.Ytaogjiffnebnkaa
set_option linter.unusedVariables false
set_option linter.unusedSimpArgs false
namespace Go.Proofs.Ytaogjiffnebnkaa
open Go.RowKit
theorem nan_key {x : Nat} : isNaN x ↔ key x = 18437736874454810625 := by
  have := key_nan_iff x
  rw [decide_eq_decide] at this
  exact this
theorem atB_lt' (k : Nat) : atB 9221120237041090561 k < 18446744073709551616 := by
  unfold atB; split
  · omega
  · split
    · omega
    · split <;> omega
end Go.Proofs.Ytaogjiffnebnkaa
set_option linter.unusedVariables false
set_option linter.unusedSimpArgs false
namespace Go.Proofs.Ytaogjiffnebnkaa
/-- The number of a key (a NaN: some). -/
def aK (k : Nat) : Nat := atB 9221120237041090561 k
theorem aK_lt (k : Nat) : aK k < 18446744073709551616 := atB_lt' k
/-- The numbers of a list, each once, rising, no NaN. -/
structure Dst (l D : List Nat) : Prop where
  rise : D.Pairwise fun x y => key x < key y
  mem : ∀ x, x ∈ D ↔ ∃ y ∈ l, ¬ isNaN y ∧ x = aK (key y)
theorem Dst.nil : Dst [] [] := ⟨List.Pairwise.nil, fun x => by simp⟩
theorem Dst.f64 {l D : List Nat} (h : Dst l D) : F64 D := by
  intro x hx
  obtain ⟨y, _, _, r⟩ := (h.mem x).1 hx
  rw [r]; exact aK_lt _
end Go.Proofs.Ytaogjiffnebnkaa
namespace Go.Proofs
open Go.Shelf
end Go.Proofs
set_option linter.unusedVariables false
set_option linter.unusedSimpArgs false
namespace Go.Proofs.Ytaogjiffnebnkaa
open Go.RowKit
/-- Numbers as cells. -/
def UF (l : List Nat) : List Value := l.map fun x => Value.float .f64 x
end Go.Proofs.Ytaogjiffnebnkaa
set_option linter.unusedVariables false
set_option linter.unusedSimpArgs false
namespace Go.Proofs.Ytaogjiffnebnkaa
open Go.RowKit
/-- A list of numbers that can be read, nil or not. -/
def RdV (w : World) (p : Option Addr) (l : List Nat) : Prop := ∀ i, i < l.length → ∃ g o, p = some ⟨g, o, none⟩ ∧ w.cell? ⟨g, o + i, none⟩ = some (.float .f64 (l.getD i 0))
end Go.Proofs.Ytaogjiffnebnkaa
set_option linter.unusedVariables false
set_option linter.unusedSimpArgs false
namespace Go.Proofs.Ytaogjiffnebnkaa
open Go.RowKit Go.Shelf
theorem own_block {B e s n : Nat} {w : World} {v : Value} {l : List Value} (h : w.ownsRow B e s v n l) {b : Nat} (hb : v.ownBlock = some b) : B ≤ b ∧ ∃ cur, w.heap[b]? = some (.cells cur e (0, 0)) := by
  rcases h.2 with ⟨h1, _⟩ | ⟨g, cap, cur, hv, hg, hh, r⟩
  · rw [h1] at hb; cases hb
  · rw [hv] at hb
    have hb : some g = some b := hb
    simp only [Option.some.injEq] at hb
    subst hb
    exact ⟨hg, cur, hh⟩
theorem Keep.at {w w' : World} (k : Keep w w') {g : Nat} {o : Obj} (h : w.heap[g]? = some o) : w'.heap[g]? = some o := by rw [k.block g (Array.getElem?_eq_some_iff.1 h).1]; exact h
theorem own_keep {B e s n : Nat} {w w' : World} {v : Value} {l : List Value} (h : w.ownsRow B e s v n l) (k : Keep w w') : w'.ownsRow B e s v n l := by
  refine ⟨h.1, ?_⟩
  rcases h.2 with h2 | ⟨g, cap, cur, hv, hg, hh, r⟩
  · exact .inl h2
  · exact .inr ⟨g, cap, cur, hv, hg, k.at hh, r⟩
/-- Bits as cells. -/
def UU (l : List Nat) : List Value := l.map fun x => Value.int .u64 ((x : Nat) : Int)
end Go.Proofs.Ytaogjiffnebnkaa
set_option linter.unusedVariables false
set_option linter.unusedSimpArgs false
namespace Go.Proofs.Ytaogjiffnebnkaa
open Go.RowKit Go.Shelf
/-- Bits as they lie in a row of one's own. -/
def ArC (w : World) (g cap : Nat) (l : List Nat) : Prop := ∃ cur : Array Value, w.heap[g]? = some (.cells cur 41 (0, 0)) ∧ cur.size = cap ∧ cur.toList.take l.length = UU l
theorem ArC.cell {w : World} {g cap : Nat} {l : List Nat} (h : ArC w g cap l) {j : Nat} (hj : j < l.length) : w.cell? ⟨g, j, none⟩ = some (.int .u64 ((l.getD j 0 : Nat) : Int)) := by
  obtain ⟨cur, h1, -, h2⟩ := h
  have e : cur.toList[j]? = (UU l)[j]? := by rw [← h2, List.getElem?_take, if_pos hj]
  rw [cell_of_row w g j cur 41 (0, 0) h1]
  have : cur[j]? = cur.toList[j]? := by simp
  rw [this, e]
  simp [UU, List.getD, hj]
theorem ArC.frozen {w : World} {g cap : Nat} {l : List Nat} (h : ArC w g cap l) (j : Nat) : w.frozen? ⟨g, j, none⟩ = false := by
  obtain ⟨cur, h1, -⟩ := h
  exact frozen_of_row w g j cur 41 h1
end Go.Proofs.Ytaogjiffnebnkaa
set_option linter.unusedVariables false
set_option linter.unusedSimpArgs false
namespace Go.Proofs.Ytaogjiffnebnkaa
open Go.RowKit Go.Shelf Go.Maps
/-- A key as it stands in a map. -/
def kL (k : Nat) : Lit := .int .u64 ((k : Nat) : Int)
theorem kL_inj {a b : Nat} (h : kL a = kL b) : a = b := by
  unfold kL at h
  injection h with _ h
  omega
theorem kL_self (k : Nat) : (kL k).sameKey (kL k) = true := by simp [kL, Lit.sameKey]
theorem kL_ne {a b : Nat} (h : a ≠ b) : (kL a).sameKey (kL b) = false := sameKey_ne fun e => h (kL_inj e)
/-- The keys that a map has. -/
def Met (D : DataW Unit) (l : List Nat) : Prop := IsMap D ∧ ∀ k : Nat, Maps.has D (kL k) = true ↔ ∃ y ∈ l, key y = k
theorem Met.nil : Met (.map []) [] := ⟨isMap_empty, fun k => by simp [Maps.has]⟩
theorem Met.put {D : DataW Unit} {l : List Nat} (h : Met D l) (x : Nat) (u : DataW Unit) : Met (D.put (kL (key x)) u) (l ++ [x]) := by
  refine ⟨h.1.put _ _, fun k => ?_⟩
  by_cases hk : k = key x
  · rw [hk, has_put_same h.1 (show WideAt.IsKeyLit (kL (key x)) from trivial)]
    exact ⟨fun _ => ⟨x, by simp, rfl⟩, fun _ => rfl⟩
  · rw [has_put_other (fun e => hk (kL_inj e)), h.2 k]
    constructor
    · rintro ⟨y, hy, r⟩; exact ⟨y, by simp [hy], r⟩
    · rintro ⟨y, hy, r⟩
      rcases List.mem_append.1 hy with q | q
      · exact ⟨y, q, r⟩
      · rw [List.mem_singleton.1 q] at r; exact absurd r.symm hk
/-- What has been met and what is still to come. -/
structure Clt (D : DataW Unit) (left : Lit → Bool) (ks : List Nat) : Prop where
  nodup : ks.Nodup
  mem : ∀ k, k ∈ ks ↔ Maps.has D (kL k) = true ∧ left (kL k) = false
theorem Clt.start (D : DataW Unit) : Clt D (Maps.has D) [] := ⟨List.nodup_nil, fun k => by
  constructor
  · intro h; cases h
  · rintro ⟨h1, h2⟩; rw [h1] at h2; cases h2⟩
theorem Clt.step {D : DataW Unit} {left : Lit → Bool} {ks : List Nat} (h : Clt D left ks) {k : Nat} (hl : left (kL k) = true) (hh : Maps.has D (kL k) = true) : Clt D (fun z => left z && !z.sameKey (kL k)) (ks ++ [k]) := by
  refine ⟨?_, fun j => ?_⟩
  · rw [List.nodup_append]
    refine ⟨h.nodup, by simp, ?_⟩
    intro a ha b hb
    rw [List.mem_singleton.1 hb]
    intro e
    subst e
    have := ((h.mem a).1 ha).2
    rw [hl] at this; cases this
  · rw [List.mem_append, h.mem, List.mem_singleton]
    by_cases hj : j = k
    · subst hj
      simp [hh, kL_self]
    · simp [hj, kL_ne hj]
theorem Clt.all {D : DataW Unit} {l : List Nat} (h : Met D l) {left : Lit → Bool} {ks : List Nat} (hc : Clt (D.del (kL 18437736874454810625)) left ks) (hl : ∀ z, left z = false) : ∀ k, k ∈ ks ↔ ∃ y ∈ l, ¬ isNaN y ∧ key y = k := by
  intro k
  rw [hc.mem]
  simp only [hl, and_true]
  by_cases hk : k = 18437736874454810625
  · rw [hk, has_del_same]
    constructor
    · intro q; cases q
    · rintro ⟨y, h1, h2, h3⟩; exact absurd (nan_key.2 h3) h2
  · rw [has_del_other (fun e => hk (kL_inj e)), h.2 k]
    constructor
    · rintro ⟨y, h1, h2⟩; exact ⟨y, h1, fun q => hk (by rw [← h2]; exact nan_key.1 q), h2⟩
    · rintro ⟨y, h1, _, h2⟩; exact ⟨y, h1, h2⟩
end Go.Proofs.Ytaogjiffnebnkaa
set_option linter.unusedVariables false
set_option linter.unusedSimpArgs false
namespace Go.Proofs.Ytaogjiffnebnkaa
open Go.RowKit Go.Shelf Go.Sort
def cF (x y : UInt64) : Int := cmpV (key x.toNat) (key y.toNat)
end Go.Proofs.Ytaogjiffnebnkaa
