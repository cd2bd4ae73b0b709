import Derived.Test.YtaogjiffnebnkaaProg
import Derived.Test.YtaogjiffnebnkaaFl
import Derived.Test.YtaogjiffnebnkaaV7
import Derived.Test.YtaogjiffnebnkaaU2
import Ieee.Arith
import Derived.WalkKit
import Derived.WalkSpells
import Derived.WalkLawsBesides
import Derived.Deep.Draws
import Derived.Deep.QuietTactic
import Derived.BigQuiet
import Derived.Laws.Externs
import Derived.RegionTactic
import Derived.Laws.Rows
import Derived.Shelf.SlSortCmp.Whole1
import Derived.Ground.SlsfProg
import Derived.Laws.CopyOwn
import Derived.Deep.RegionLaw
import Derived.Shelf.Abstract
import Derived.Below
import Derived.BigRegion
import Derived.Maps.OwnSet
import Derived.Maps.RangeWalk
set_option linter.unusedVariables false
set_option linter.unusedSimpArgs false
namespace Go.Proofs.Ytaogjiffnebnkaa
open Go.RowKit
theorem f64from (x : Nat) (w : World) : (callFunc 72 #[.int .u64 (x : Nat)]).run Try.prog w = .ok (.value (.float .f64 x)) w := by
  rw [run_callFunc_extern Try.func72 (by kernel_rfl) (by kernel_rfl) (by kernel_rfl) (e := Extern.MathFloatBits.float64frombits) (by kernel_rfl)]
  rfl
theorem ret_int {k : IntKind} {a b : Int} (h : a = b) : Ending.returned (.int k a) = .returned (.int k b) := by rw [h]
end Go.Proofs.Ytaogjiffnebnkaa
set_option linter.unusedVariables false
set_option linter.unusedSimpArgs false
namespace Go.Proofs.Ytaogjiffnebnkaa
open Go.RowKit
/-- The bits of a key's number; of a NaN's key 'n'. -/
def atB (n k : Nat) : Nat := if 18437736874454810625 < k then 0 else if k = 18437736874454810625 then n else if k < 9218868437227405312 then 18442240474082181120 - k else k - 9218868437227405312
def atE (k : Nat) : Int := if 18437736874454810625 < k then 2 else 0
theorem at_far (n : Nat) {k : Nat} (h : 18437736874454810625 < k) : atB n k = 0 ∧ atE k = 2 := by unfold atB atE; rw [if_pos h, if_pos h]; exact ⟨rfl, rfl⟩
theorem at_nan (n : Nat) : atB n 18437736874454810625 = n ∧ atE 18437736874454810625 = 0 := by unfold atB atE; rw [if_neg (by omega), if_pos rfl, if_neg (by omega)]; exact ⟨rfl, rfl⟩
theorem at_neg (n : Nat) {k : Nat} (h : k < 9218868437227405312) : atB n k = 18442240474082181120 - k ∧ atE k = 0 := by unfold atB atE; rw [if_neg (by omega), if_neg (by omega), if_pos h, if_neg (by omega)]; exact ⟨rfl, rfl⟩
theorem at_pos (n : Nat) {k : Nat} (h : 9218868437227405312 ≤ k) (h2 : k < 18437736874454810625) : atB n k = k - 9218868437227405312 ∧ atE k = 0 := by unfold atB atE; rw [if_neg (by omega), if_neg (by omega), if_neg (by omega), if_neg (by omega)]; exact ⟨rfl, rfl⟩
theorem or63 (j : Nat) (h : j < 9223372036854775808) : bits .or .u64 9223372036854775808 (j : Int) = ((9223372036854775808 + j : Nat) : Int) := by
  have := u64_or_nat 9223372036854775808 j (by omega) (by omega)
  rw [show ((9223372036854775808 : Nat) : Int) = 9223372036854775808 from rfl] at this
  rw [this, nat_join 63 9223372036854775808 j (by decide) h]
theorem nan_any (w : World) : Calls Try.prog 84 #[] w fun e w' => e = .returned (.float .f64 9221120237041090561) ∧ w' = w := by
  have hf := f64from 9221120237041090561
  rw [show ((9221120237041090561 : Nat) : Int) = 9221120237041090561 from rfl] at hf
  go_enter Try.func84, Try.ntmps84
  go_wp2
  go_ret
  exact ⟨rfl, rfl⟩
theorem At_far (k : Nat) (w : World) (h1 : (18437736874454810625 : Int) < (k : Int)) :
    Calls Try.prog 69 #[.int .u64 (k : Nat)] w fun e w' => e = .returned (.tuple #[.float .f64 0, .int .i64 2]) ∧ w' = w := by
  go_enter Try.func69, Try.ntmps69
  go_wp2
  go_ret2
  exact ⟨rfl, rfl⟩
theorem At_nan (w : World) :
    Calls Try.prog 69 #[.int .u64 18437736874454810625] w fun e w' => e = .returned (.tuple #[.float .f64 9221120237041090561, .int .i64 0]) ∧ w' = w := by
  go_enter Try.func69, Try.ntmps69
  go_wp2_with (go_at_call 84; refine (nan_any _).mono ?_; rintro e w' ⟨rfl, rfl⟩)
  go_ret2
  exact ⟨rfl, rfl⟩
theorem At_neg (k j q : Nat) (w : World) (hq : 9223372036854775808 + j = q) (h1 : (k : Int) + j = 9218868437227405312) (h2 : 0 < j) :
    Calls Try.prog 69 #[.int .u64 (k : Nat)] w fun e w' => e = .returned (.tuple #[.float .f64 q, .int .i64 0]) ∧ w' = w := by
  have hf := f64from q
  have ho := or63 j (by omega)
  rw [hq] at ho
  have hs : (9218868437227405312 : Int) - (k : Int) = (j : Int) := by omega
  have a1 : decide ((k : Int) < 9218868437227405312) = true := by rw [decide_eq_true_eq]; omega
  have a2 : ((k : Int) == 18437736874454810625) = false := by rw [beq_eq_false_iff_ne]; omega
  have a3 : decide ((18437736874454810625 : Int) < (k : Int)) = false := by rw [decide_eq_false_iff_not]; omega
  clear hq
  go_enter Try.func69, Try.ntmps69
  go_wp2_with (simp only [hs, ho])
  go_ret2
  exact ⟨rfl, rfl⟩
theorem At_pos (k q : Nat) (w : World) (h1 : (k : Int) - 9218868437227405312 = q) (h2 : k < 18437736874454810625) :
    Calls Try.prog 69 #[.int .u64 (k : Nat)] w fun e w' => e = .returned (.tuple #[.float .f64 q, .int .i64 0]) ∧ w' = w := by
  have hf := f64from q
  have a1 : decide ((k : Int) < 9218868437227405312) = false := by rw [decide_eq_false_iff_not]; omega
  have a2 : ((k : Int) == 18437736874454810625) = false := by rw [beq_eq_false_iff_ne]; omega
  have a3 : decide ((18437736874454810625 : Int) < (k : Int)) = false := by rw [decide_eq_false_iff_not]; omega
  go_enter Try.func69, Try.ntmps69
  go_wp2_with (simp only [h1])
  go_ret2
  exact ⟨rfl, rfl⟩
theorem At_any (k : Nat) (w : World) :
    Calls Try.prog 69 #[.int .u64 (k : Nat)] w fun e w' => e = .returned (.tuple #[.float .f64 (atB 9221120237041090561 k), .int .i64 (atE k)]) ∧ w' = w := by
  by_cases h1 : 18437736874454810625 < k
  · rw [(at_far _ h1).1, (at_far 0 h1).2]; exact At_far k w (by omega)
  · by_cases h2 : k = 18437736874454810625
    · rw [h2, (at_nan _).1, (at_nan 0).2]; exact At_nan w
    · by_cases h3 : k < 9218868437227405312
      · rw [(at_neg _ h3).1, (at_neg 0 h3).2]; exact At_neg k (9218868437227405312 - k) _ w (by omega) (by omega) (by omega)
      · rw [(at_pos _ (by omega) (by omega)).1, (at_pos 0 (by omega) (by omega)).2]; exact At_pos k _ w (by omega) (by omega)
end Go.Proofs.Ytaogjiffnebnkaa
set_option linter.unusedVariables false
set_option linter.unusedSimpArgs false
namespace Go.Proofs.Ytaogjiffnebnkaa
open Go.RowKit
/-- -1, 0 or 1. -/
def cmpV (a b : Nat) : Int := if a < b then -1 else if b < a then 1 else 0
theorem cmpNaN (x : Nat) (w : World) : Calls Try.prog 88 #[.int .u64 (x : Nat)] w fun e w' => e = .returned (.bool false) ∧ w' = w := by
  go_enter Try.func88, Try.ntmps88
  go_wp2
  go_ret
  exact ⟨rfl, rfl⟩
theorem cmp_any (a b : Nat) (w : World) : Calls Try.prog 75 #[.int .u64 (a : Nat), .int .u64 (b : Nat)] w fun e w' => e = .returned (.int .i64 (cmpV a b)) ∧ w' = w := by
  rcases Nat.lt_trichotomy a b with h | h | h
  · have Hv : Hid (cmpV a b = -1) := by show cmpV a b = -1; unfold cmpV; rw [if_pos h]
    have a1 : decide ((a : Int) < (b : Int)) = true := by rw [decide_eq_true_eq]; omega
    go_enter Try.func75, Try.ntmps75
    go_wp2_with (go_at_call 88; refine (cmpNaN _ _).mono ?_; rintro e w' ⟨rfl, rfl⟩)
    go_ret
    exact ⟨ret_int Hv.out.symm, rfl⟩
  · subst h
    have Hv : Hid (cmpV a a = 0) := by show cmpV a a = 0; unfold cmpV; rw [if_neg (by omega), if_neg (by omega)]
    have a1 : decide ((a : Int) < (a : Int)) = false := by rw [decide_eq_false_iff_not]; omega
    go_enter Try.func75, Try.ntmps75
    go_wp2_with (go_at_call 88; refine (cmpNaN _ _).mono ?_; rintro e w' ⟨rfl, rfl⟩)
    go_ret
    exact ⟨ret_int Hv.out.symm, rfl⟩
  · have Hv : Hid (cmpV a b = 1) := by show cmpV a b = 1; unfold cmpV; rw [if_neg (by omega), if_pos h]
    have a1 : decide ((a : Int) < (b : Int)) = false := by rw [decide_eq_false_iff_not]; omega
    have a2 : decide ((b : Int) < (a : Int)) = true := by rw [decide_eq_true_eq]; omega
    go_enter Try.func75, Try.ntmps75
    go_wp2_with (go_at_call 88; refine (cmpNaN _ _).mono ?_; rintro e w' ⟨rfl, rfl⟩)
    go_ret
    exact ⟨ret_int Hv.out.symm, rfl⟩
theorem Compare_any (x y : Nat) (w : World) (hx : x < 18446744073709551616) (hy : y < 18446744073709551616) :
    Calls Try.prog 71 #[.float .f64 x, .float .f64 y] w fun e w' => e = .returned (.int .i64 (cmpV (key x) (key y))) ∧ w' = w := by
  go_enter Try.func71, Try.ntmps71
  go_wp2_with first
    | (go_at_call 55; refine (Key_any _ _ (by assumption)).mono ?_; rintro e w' ⟨rfl, rfl⟩)
    | (go_at_call 75; refine (cmp_any _ _ _).mono ?_; rintro e w' ⟨rfl, rfl⟩)
  go_ret
  exact ⟨rfl, rfl⟩
theorem key_nan_iff (x : Nat) : decide (isNaN x) = decide (key x = 18437736874454810625) := by
  rw [decide_eq_decide]
  unfold isNaN key
  split
  · simp only [*]
  · split <;> omega
end Go.Proofs.Ytaogjiffnebnkaa
set_option linter.unusedVariables false
set_option linter.unusedSimpArgs false
namespace Go.Proofs.Ytaogjiffnebnkaa
open Go.RowKit
/-- Numbers as they lie in a row that is sorted: at its beginning, perhaps with room behind. -/
def Arr (w : World) (g : Nat) (l : List Nat) : Prop := ∃ cur : Array Value, w.heap[g]? = some (.cells cur 34 (0, 0)) ∧ cur.toList.take l.length = l.map fun x => Value.float .f64 x
theorem Arr.cell {w : World} {g : Nat} {l : List Nat} (h : Arr w g l) {j : Nat} (hj : j < l.length) : w.cell? ⟨g, j, none⟩ = some (.float .f64 (l.getD j 0)) := by
  obtain ⟨cur, h1, h2⟩ := h
  have e : cur.toList[j]? = (l.map fun x => Value.float .f64 x)[j]? := by rw [← h2, List.getElem?_take, if_pos hj]
  rw [cell_of_row w g j cur 34 (0, 0) h1]
  have : cur[j]? = cur.toList[j]? := by simp
  rw [this, e]
  simp [List.getD, hj]
theorem Arr.frozen {w : World} {g : Nat} {l : List Nat} (h : Arr w g l) (j : Nat) : w.frozen? ⟨g, j, none⟩ = false := by
  obtain ⟨cur, h1, -⟩ := h
  exact frozen_of_row w g j cur 34 h1
/-- All but one block as it was. -/
structure Oth (g : Nat) (w w' : World) : Prop where
  os : w'.os = w.os
  tape : w'.tape = w.tape
  output : w'.output = w.output
  size : w'.heap.size = w.heap.size
  block : ∀ k, k ≠ g → w'.heap[k]? = w.heap[k]?
theorem Oth.refl (g : Nat) (w : World) : Oth g w w := ⟨rfl, rfl, rfl, rfl, fun _ _ => rfl⟩
theorem Oth.trans {g : Nat} {a b c : World} (h : Oth g a b) (k : Oth g b c) : Oth g a c := ⟨k.os.trans h.os, k.tape.trans h.tape, k.output.trans h.output, k.size.trans h.size, fun j hj => (k.block j hj).trans (h.block j hj)⟩
end Go.Proofs.Ytaogjiffnebnkaa
set_option linter.unusedVariables false
set_option linter.unusedSimpArgs false
namespace Go.Proofs.Ytaogjiffnebnkaa
open Go.RowKit
attribute [local go_sem] run_store_float
abbrev cmpF : Value := .func (.func 71) #[] #[]
end Go.Proofs.Ytaogjiffnebnkaa
set_option linter.unusedVariables false
set_option linter.unusedSimpArgs false
namespace Go.Proofs.Ytaogjiffnebnkaa
open Go.RowKit
attribute [local go_sem] run_store_float
/-- The key of a number, as a whole number. -/
def kI (x : Nat) : Int := ((key x : Nat) : Int)
def F64 (l : List Nat) : Prop := ∀ x ∈ l, x < 18446744073709551616
theorem F64.at {l : List Nat} (h : F64 l) (i : Nat) (hi : i < l.length) : l.getD i 0 < 18446744073709551616 := h _ (by simp [List.getD, hi])
/-- Whether one comes ahead of another, as the program asks it. -/
theorem cmpI_lt (x y : Nat) : decide (cmpV (key x) (key y) < 0) = decide (kI x < kI y) := by
  unfold cmpV kI
  by_cases h : key x < key y
  · rw [if_pos h]; simp; exact h
  · rw [if_neg h]
    have : ¬ ((key x : Nat) : Int) < ((key y : Nat) : Int) := by omega
    rw [decide_eq_false this]
    split <;> decide
end Go.Proofs.Ytaogjiffnebnkaa
set_option linter.unusedVariables false
set_option linter.unusedSimpArgs false
namespace Go.Proofs.Ytaogjiffnebnkaa
open Go.RowKit
theorem nan_key {x : Nat} : isNaN x ↔ key x = 18437736874454810625 := by
  have := key_nan_iff x
  rw [decide_eq_decide] at this
  exact this
/-- What At says of a key that is one. -/
theorem atB_key {k : Nat} (h : k ≤ 18437736874454810625) : key (atB 9221120237041090561 k) = k := by
  by_cases h2 : k = 18437736874454810625
  · rw [h2, (at_nan _).1]; decide
  · by_cases h3 : k < 9218868437227405312
    · rw [(at_neg _ h3).1, key_neg (by omega) (by omega)]; omega
    · rw [(at_pos _ (by omega) (by omega)).1, key_pos (by omega) (by omega)]; omega
theorem atB_lt' (k : Nat) : atB 9221120237041090561 k < 18446744073709551616 := by
  unfold atB; split
  · omega
  · split
    · omega
    · split <;> omega
end Go.Proofs.Ytaogjiffnebnkaa
set_option linter.unusedVariables false
set_option linter.unusedSimpArgs false
namespace Go.Proofs.Ytaogjiffnebnkaa
/-- The number of a key (a NaN: some). -/
def aK (k : Nat) : Nat := atB 9221120237041090561 k
theorem aK_key {k : Nat} (h : k ≤ 18437736874454810625) : key (aK k) = k := atB_key h
theorem aK_lt (k : Nat) : aK k < 18446744073709551616 := atB_lt' k
/-- The numbers of a list, each once, rising, no NaN. -/
structure Dst (l D : List Nat) : Prop where
  rise : D.Pairwise fun x y => key x < key y
  mem : ∀ x, x ∈ D ↔ ∃ y ∈ l, ¬ isNaN y ∧ x = aK (key y)
theorem Dst.nil : Dst [] [] := ⟨List.Pairwise.nil, fun x => by simp⟩
theorem Dst.f64 {l D : List Nat} (h : Dst l D) : F64 D := by
  intro x hx
  obtain ⟨y, _, _, r⟩ := (h.mem x).1 hx
  rw [r]; exact aK_lt _
/-- Keys in whatever order, each once: their numbers, sorted. -/
theorem Dst.of_keys {l ks D : List Nat} (hm : ∀ k, k ∈ ks ↔ ∃ y ∈ l, ¬ isNaN y ∧ key y = k) (hn : ks.Nodup) (hp : D.Perm (ks.map aK)) (hs : D.Pairwise fun x y => key x ≤ key y) : Dst l D := by
  have hkey : (ks.map aK).map key = ks := by
    rw [List.map_map]
    conv => rhs; rw [← List.map_id ks]
    refine List.map_congr_left fun k hk => ?_
    obtain ⟨y, _, _, r⟩ := (hm k).1 hk
    show key (aK k) = k
    exact aK_key (by rw [← r]; exact key_le y)
  have hnd : (D.map key).Nodup := by
    have := (hp.map key).nodup_iff.2 (by rw [hkey]; exact hn)
    exact this
  refine ⟨?_, fun x => ?_⟩
  · have h2 := List.pairwise_map.1 (List.nodup_iff_pairwise_ne.1 hnd)
    exact (hs.and h2).imp fun {a b} q => by omega
  · rw [hp.mem_iff, List.mem_map]
    constructor
    · rintro ⟨k, hk, r⟩
      obtain ⟨y, h1, h2, h3⟩ := (hm k).1 hk
      exact ⟨y, h1, h2, by rw [h3, r]⟩
    · rintro ⟨y, h1, h2, h3⟩
      exact ⟨key y, (hm _).2 ⟨y, h1, h2, rfl⟩, h3.symm⟩
end Go.Proofs.Ytaogjiffnebnkaa
namespace Go.Proofs
open Go.Shelf
def Try.sortF_ren : Go.Shelf.Ren := ⟨fun | 6 => 70 | 15 => 86 | 14 => 85 | 28 => 103 | 29 => 104 | 20 => 95 | 21 => 96 | 22 => 97 | 23 => 98 | 24 => 99 | 25 => 100 | 26 => 101 | 27 => 102 | 46 => 112 | 47 => 113 | 48 => 114 | 49 => 115 | 50 => 116 | 57 => 123 | n => n, fun | 22 => 46 | 24 => 34 | 25 => 123 | 3 => 3 | 39 => 138 | 0 => 0 | 53 => 157 | 55 => 41 | 4 => 4 | 46 => 150 | 45 => 149 | 50 => 154 | 5 => 5 | 9 => 9 | 66 => 168 | 70 => 172 | 76 => 177 | 77 => 178 | n => n, fun | n => n⟩
theorem Try.sortF : Go.Proofs.SlLaysF.n6 Try.prog Try.sortF_ren := {
  mixed := by kernel_rfl
  f6 := ⟨Try.f70.name, by decide, Try.func70.trans (congrArg some (by kernel_rfl))⟩
  f14 := ⟨Try.f85.name, by decide, Try.func85.trans (congrArg some (by kernel_rfl))⟩
  f15 := Try.func86.trans (congrArg some (by kernel_rfl))
  f20 := ⟨Try.f95.name, by decide, Try.func95.trans (congrArg some (by kernel_rfl))⟩
  f21 := ⟨Try.f96.name, by decide, Try.func96.trans (congrArg some (by kernel_rfl))⟩
  f22 := ⟨Try.f97.name, by decide, Try.func97.trans (congrArg some (by kernel_rfl))⟩
  f23 := ⟨Try.f98.name, by decide, Try.func98.trans (congrArg some (by kernel_rfl))⟩
  f24 := ⟨Try.f99.name, by decide, Try.func99.trans (congrArg some (by kernel_rfl))⟩
  f25 := ⟨Try.f100.name, by decide, Try.func100.trans (congrArg some (by kernel_rfl))⟩
  f26 := ⟨Try.f101.name, by decide, Try.func101.trans (congrArg some (by kernel_rfl))⟩
  f27 := ⟨Try.f102.name, by decide, Try.func102.trans (congrArg some (by kernel_rfl))⟩
  f28 := Try.func103.trans (congrArg some (by kernel_rfl))
  f29 := Try.func104.trans (congrArg some (by kernel_rfl))
  f46 := ⟨Try.f112.name, by decide, Try.func112.trans (congrArg some (by kernel_rfl))⟩
  f47 := Try.func113.trans (congrArg some (by kernel_rfl))
  f48 := Try.func114.trans (congrArg some (by kernel_rfl))
  f49 := ⟨Try.f115.name, by decide, Try.func115.trans (congrArg some (by kernel_rfl))⟩
  f50 := ⟨Try.f116.name, by decide, Try.func116.trans (congrArg some (by kernel_rfl))⟩
  f57 := ⟨Try.f123.name, by decide, Try.func123.trans (congrArg some (by kernel_rfl))⟩
  t0 := Try.underlying0
  a0 := Try.isAgg0
  z0 := Try.sizeOf0
  v0 := Try.zeroValue0
  t3 := Try.underlying3
  a3 := Try.isAgg3
  z3 := Try.sizeOf3
  v3 := Try.zeroValue3
  t4 := Try.underlying4
  a4 := Try.isAgg4
  z4 := Try.sizeOf4
  v4 := Try.zeroValue4
  t5 := Try.underlying5
  a5 := Try.isAgg5
  z5 := Try.sizeOf5
  v5 := Try.zeroValue5
  t9 := Try.underlying9
  a9 := Try.isAgg9
  z9 := Try.sizeOf9
  v9 := Try.zeroValue9
  t22 := Try.underlying46
  a22 := Try.isAgg46
  z22 := Try.sizeOf46
  v22 := Try.zeroValue46
  a24 := Try.isAgg34
  z24 := Try.sizeOf34
  t25 := Try.underlying123
  a25 := Try.isAgg123
  z25 := Try.sizeOf123
  v25 := Try.zeroValue123
  t39 := Try.underlying138
  a39 := Try.isAgg138
  z39 := Try.sizeOf138
  v39 := Try.zeroValue138
  t45 := Try.underlying149
  a45 := Try.isAgg149
  z45 := Try.sizeOf149
  v45 := Try.zeroValue149
  t46 := Try.underlying150
  a46 := Try.isAgg150
  z46 := Try.sizeOf150
  v46 := Try.zeroValue150
  t50 := Try.underlying154
  a50 := Try.isAgg154
  z50 := Try.sizeOf154
  v50 := Try.zeroValue154
  t53 := Try.underlying157
  a53 := Try.isAgg157
  z53 := Try.sizeOf157
  v53 := Try.zeroValue157
  t55 := Try.underlying41
  a55 := Try.isAgg41
  z55 := Try.sizeOf41
  v55 := Try.zeroValue41
  t66 := Try.underlying168
  a66 := Try.isAgg168
  z66 := Try.sizeOf168
  v66 := Try.zeroValue168
  t70 := Try.underlying172
  a70 := Try.isAgg172
  z70 := Try.sizeOf172
  v70 := Try.zeroValue172
  t76 := Try.underlying177
  a76 := Try.isAgg177
  z76 := Try.sizeOf177
  v76 := Try.zeroValue177
  t77 := Try.underlying178
  a77 := Try.isAgg178
  z77 := Try.sizeOf178
  v77 := Try.zeroValue178 }
end Go.Proofs
set_option linter.unusedVariables false
set_option linter.unusedSimpArgs false
namespace Go.Proofs.Ytaogjiffnebnkaa
open Go.RowKit
/-- Numbers as cells. -/
def UF (l : List Nat) : List Value := l.map fun x => Value.float .f64 x
theorem UF_one (l : List Nat) : ∀ v ∈ UF l, v.oneCell' = true := by
  intro v hv; obtain ⟨_, _, rfl⟩ := List.mem_map.1 hv; rfl
theorem i23 : (Try.prog.info? 34).map (fun i => (i.zero, i.size, i.bytes)) = some (some (.float .f64 0), 1, 8) := by kernel_rfl
end Go.Proofs.Ytaogjiffnebnkaa
set_option linter.unusedVariables false
set_option linter.unusedSimpArgs false
namespace Go.Proofs.Ytaogjiffnebnkaa
open Go.RowKit
/-- A list of numbers that can be read, nil or not. -/
def RdV (w : World) (p : Option Addr) (l : List Nat) : Prop := ∀ i, i < l.length → ∃ g o, p = some ⟨g, o, none⟩ ∧ w.cell? ⟨g, o + i, none⟩ = some (.float .f64 (l.getD i 0))
end Go.Proofs.Ytaogjiffnebnkaa
set_option linter.unusedVariables false
set_option linter.unusedSimpArgs false
namespace Go.Proofs.Ytaogjiffnebnkaa
open Go.RowKit Go.Shelf
theorem own_block {B e s n : Nat} {w : World} {v : Value} {l : List Value} (h : w.ownsRow B e s v n l) {b : Nat} (hb : v.ownBlock = some b) : B ≤ b ∧ ∃ cur, w.heap[b]? = some (.cells cur e (0, 0)) := by
  rcases h.2 with ⟨h1, _⟩ | ⟨g, cap, cur, hv, hg, hh, r⟩
  · rw [h1] at hb; cases hb
  · rw [hv] at hb
    have hb : some g = some b := hb
    simp only [Option.some.injEq] at hb
    subst hb
    exact ⟨hg, cur, hh⟩
theorem Keep.at {w w' : World} (k : Keep w w') {g : Nat} {o : Obj} (h : w.heap[g]? = some o) : w'.heap[g]? = some o := by rw [k.block g (Array.getElem?_eq_some_iff.1 h).1]; exact h
theorem own_keep {B e s n : Nat} {w w' : World} {v : Value} {l : List Value} (h : w.ownsRow B e s v n l) (k : Keep w w') : w'.ownsRow B e s v n l := by
  refine ⟨h.1, ?_⟩
  rcases h.2 with h2 | ⟨g, cap, cur, hv, hg, hh, r⟩
  · exact .inl h2
  · exact .inr ⟨g, cap, cur, hv, hg, k.at hh, r⟩
theorem newsF (W : World) (x : Nat) : ∀ j u, (UF [x])[j]? = some u → (W.alloc (Obj.cells #[.float .f64 x] 34)).cell? ((⟨W.heap.size, 0, none⟩ : Addr).add j) = some u := by
  intro j u hj
  match j, hj with
  | 0, hj => simp [UF] at hj; subst hj; show (W.alloc _).cell? ⟨W.heap.size, 0, none⟩ = _; rw [cell_of_row _ _ _ _ 34 (0, 0) (heap_alloc_new W _)]; rfl
  | j + 1, hj => simp [UF] at hj
/-- Bits as cells. -/
def UU (l : List Nat) : List Value := l.map fun x => Value.int .u64 ((x : Nat) : Int)
end Go.Proofs.Ytaogjiffnebnkaa
set_option linter.unusedVariables false
set_option linter.unusedSimpArgs false
namespace Go.Proofs.Ytaogjiffnebnkaa
open Go.RowKit Go.Shelf
/-- Bits as they lie in a row of one's own. -/
def ArC (w : World) (g cap : Nat) (l : List Nat) : Prop := ∃ cur : Array Value, w.heap[g]? = some (.cells cur 41 (0, 0)) ∧ cur.size = cap ∧ cur.toList.take l.length = UU l
theorem ArC.cell {w : World} {g cap : Nat} {l : List Nat} (h : ArC w g cap l) {j : Nat} (hj : j < l.length) : w.cell? ⟨g, j, none⟩ = some (.int .u64 ((l.getD j 0 : Nat) : Int)) := by
  obtain ⟨cur, h1, -, h2⟩ := h
  have e : cur.toList[j]? = (UU l)[j]? := by rw [← h2, List.getElem?_take, if_pos hj]
  rw [cell_of_row w g j cur 41 (0, 0) h1]
  have : cur[j]? = cur.toList[j]? := by simp
  rw [this, e]
  simp [UU, List.getD, hj]
theorem ArC.frozen {w : World} {g cap : Nat} {l : List Nat} (h : ArC w g cap l) (j : Nat) : w.frozen? ⟨g, j, none⟩ = false := by
  obtain ⟨cur, h1, -⟩ := h
  exact frozen_of_row w g j cur 41 h1
end Go.Proofs.Ytaogjiffnebnkaa
set_option linter.unusedVariables false
set_option linter.unusedSimpArgs false
namespace Go.Proofs.Ytaogjiffnebnkaa
open Go.RowKit Go.Shelf Go.Maps
/-- A key as it stands in a map. -/
def kL (k : Nat) : Lit := .int .u64 ((k : Nat) : Int)
theorem kL_inj {a b : Nat} (h : kL a = kL b) : a = b := by
  unfold kL at h
  injection h with _ h
  omega
theorem kL_wf {k : Nat} (h : k < 18446744073709551616) : (kL k).wf = true := by
  simp [kL, Lit.wf, IntKind.min, IntKind.max, IntKind.bits, IntKind.signed]
  omega
theorem kL_self (k : Nat) : (kL k).sameKey (kL k) = true := by simp [kL, Lit.sameKey]
theorem kL_ne {a b : Nat} (h : a ≠ b) : (kL a).sameKey (kL b) = false := sameKey_ne fun e => h (kL_inj e)
theorem law22 : Keyed Try.prog 41 := int_keyed Try.underlying41
/-- The keys that a map has. -/
def Met (D : DataW Unit) (l : List Nat) : Prop := IsMap D ∧ ∀ k : Nat, Maps.has D (kL k) = true ↔ ∃ y ∈ l, key y = k
theorem Met.nil : Met (.map []) [] := ⟨isMap_empty, fun k => by simp [Maps.has]⟩
theorem Met.put {D : DataW Unit} {l : List Nat} (h : Met D l) (x : Nat) (u : DataW Unit) : Met (D.put (kL (key x)) u) (l ++ [x]) := by
  refine ⟨h.1.put _ _, fun k => ?_⟩
  by_cases hk : k = key x
  · rw [hk, has_put_same h.1 (show WideAt.IsKeyLit (kL (key x)) from trivial)]
    exact ⟨fun _ => ⟨x, by simp, rfl⟩, fun _ => rfl⟩
  · rw [has_put_other (fun e => hk (kL_inj e)), h.2 k]
    constructor
    · rintro ⟨y, hy, r⟩; exact ⟨y, by simp [hy], r⟩
    · rintro ⟨y, hy, r⟩
      rcases List.mem_append.1 hy with q | q
      · exact ⟨y, q, r⟩
      · rw [List.mem_singleton.1 q] at r; exact absurd r.symm hk
/-- What has been met and what is still to come. -/
structure Clt (D : DataW Unit) (left : Lit → Bool) (ks : List Nat) : Prop where
  nodup : ks.Nodup
  mem : ∀ k, k ∈ ks ↔ Maps.has D (kL k) = true ∧ left (kL k) = false
theorem Clt.start (D : DataW Unit) : Clt D (Maps.has D) [] := ⟨List.nodup_nil, fun k => by
  constructor
  · intro h; cases h
  · rintro ⟨h1, h2⟩; rw [h1] at h2; cases h2⟩
theorem Clt.step {D : DataW Unit} {left : Lit → Bool} {ks : List Nat} (h : Clt D left ks) {k : Nat} (hl : left (kL k) = true) (hh : Maps.has D (kL k) = true) : Clt D (fun z => left z && !z.sameKey (kL k)) (ks ++ [k]) := by
  refine ⟨?_, fun j => ?_⟩
  · rw [List.nodup_append]
    refine ⟨h.nodup, by simp, ?_⟩
    intro a ha b hb
    rw [List.mem_singleton.1 hb]
    intro e
    subst e
    have := ((h.mem a).1 ha).2
    rw [hl] at this; cases this
  · rw [List.mem_append, h.mem, List.mem_singleton]
    by_cases hj : j = k
    · subst hj
      simp [hh, kL_self]
    · simp [hj, kL_ne hj]
theorem Clt.all {D : DataW Unit} {l : List Nat} (h : Met D l) {left : Lit → Bool} {ks : List Nat} (hc : Clt (D.del (kL 18437736874454810625)) left ks) (hl : ∀ z, left z = false) : ∀ k, k ∈ ks ↔ ∃ y ∈ l, ¬ isNaN y ∧ key y = k := by
  intro k
  rw [hc.mem]
  simp only [hl, and_true]
  by_cases hk : k = 18437736874454810625
  · rw [hk, has_del_same]
    constructor
    · intro q; cases q
    · rintro ⟨y, h1, h2, h3⟩; exact absurd (nan_key.2 h3) h2
  · rw [has_del_other (fun e => hk (kL_inj e)), h.2 k]
    constructor
    · rintro ⟨y, h1, h2⟩; exact ⟨y, h1, fun q => hk (by rw [← h2]; exact nan_key.1 q), h2⟩
    · rintro ⟨y, h1, _, h2⟩; exact ⟨y, h1, h2⟩
/-- What is asked of the library's sort. -/
def SortC : Prop := ∀ (B g cap n : Nat) (l : List Nat) (w : World), F64 l → l.length = n → n ≤ 17592186044414 → w.ownsRow B 34 1 (.slice (some ⟨g, 0, none⟩) n cap) n (UF l) →
  Calls Try.prog 70 #[.slice (some ⟨g, 0, none⟩) n cap, cmpF] w fun e w' => (∃ v, e = .returned v) ∧ (∃ M, M.Perm l ∧ (M.Pairwise fun x y => key x ≤ key y) ∧ w'.ownsRow B 34 1 (.slice (some ⟨g, 0, none⟩) n cap) n (UF M)) ∧ w.grownBy w' (some g)
theorem own_ne_map {w : World} {B E z b n m : Nat} {v : Value} {xs : List Value} {D : DataW Unit} {P : Program} {k : TypeId} {R : Value → Option (DataW Unit × List MemPlace)} (h : w.ownsRow B E z v n xs) (hm : w.ownsMap P k R b m D) : some b ≠ v.ownBlock := by
  intro e
  obtain ⟨-, cur, hh⟩ := own_block h e.symm
  obtain ⟨es, clock, hb, _⟩ := hm
  rw [hh] at hb; cases hb
theorem own_ne_iter {w : World} {B E z b r n m cnt : Nat} {v : Value} {xs : List Value} {D : DataW Unit} {P : Program} {k : TypeId} {R : Value → Option (DataW Unit × List MemPlace)} {left : Lit → Bool} (h : w.ownsRow B E z v n xs) (hm : w.ranges P k R b r m D left cnt) : some r ≠ v.ownBlock := by
  intro e
  obtain ⟨-, cur, hh⟩ := own_block h e.symm
  obtain ⟨es, clock, since, seen, c0, _, _, _, _, hr, _⟩ := hm
  rw [hh] at hr; cases hr
theorem own_grown {w w' : World} {B E z n : Nat} {v : Value} {xs : List Value} {row : Option Nat} (h : w.ownsRow B E z v n xs) (g : w.grownBy w' row) (hne : ∀ b, v.ownBlock = some b → some b ≠ row) : w'.ownsRow B E z v n xs := by
  refine ⟨h.1, ?_⟩
  rcases h.2 with h2 | ⟨b, cap, cur, hv, hg, hh, r⟩
  · exact .inl h2
  · refine .inr ⟨b, cap, cur, hv, hg, ?_, r⟩
    rw [g.block b (Array.getElem?_eq_some_iff.1 hh).1 (hne b (by rw [hv]; rfl))]
    exact hh
set_option maxRecDepth 100000 in
set_option maxHeartbeats 4000000 in
/-- Each number once. -/
theorem Distinct_of (hSort : SortC) (p : Option Addr) (c n : Nat) (l : List Nat) (w : World) (hF : F64 l) (hn : l.length = n) (hl : n ≤ 17592186044414) (hL : RdV w p l) :
    Calls Try.prog 48 #[.slice p n c] w fun e w' => ∃ g cap D, e = .returned (.slice (some ⟨g, 0, none⟩) D.length cap) ∧ Dst l D ∧ w'.ownsRow w.heap.size 34 1 (.slice (some ⟨g, 0, none⟩) D.length cap) D.length (UF D) ∧ Keep w w' := by
  have HL : Hid (∀ i, i < n → ∃ g o, p = some ⟨g, o, none⟩ ∧ w.cell? ⟨g, o + i, none⟩ = some (.float .f64 (l.getD i 0))) := fun i hi => hL i (by omega)
  have HN : Hid (l.length = n) := hn
  have HF : Hid (F64 l) := hF
  have hmm := @run_makeMap Try.prog
  clear hL hn hF
  go_enter Try.func48, Try.ntmps48
  go_wp2_with fail
  have hst : Hid ((w.alloc (.map #[] 0)).ownsMap (H := Unit) Try.prog 41 (unitElem (H := Unit)) w.heap.size 0 (.map [])) := World.ownsMap_made _ _ _ _
  go_loopw [13] (fun iv wr => ∃ (i : Nat) (D : DataW Unit), iv = .int .i64 (i : Int) ∧ i ≤ n ∧ Hid (Met D (l.take i)) ∧ wr.ownsMap (H := Unit) Try.prog 41 (unitElem (H := Unit)) w.heap.size i D ∧ Keep w wr) (fun iv _ => n - (intOf iv).toNat)
  case atStart => exact ⟨0, _, rfl, by omega, Met.nil, hst.out, (Keep.refl w).alloc _⟩
  case round =>
    obtain ⟨i, D, rfl, hi, hD, hown, kw⟩ := hrel
    by_cases hin : i < n
    · have hic : (i : Int) < (n : Int) := by omega
      obtain ⟨g, o, rfl, cx0⟩ := HL.out i hin
      have cx := kw.cell cx0
      obtain ⟨x, hx⟩ : ∃ x, l.getD i 0 = x := ⟨_, rfl⟩
      have hil : i < l.length := by rw [HN.out]; exact hin
      have hx64 : x < 18446744073709551616 := by rw [← hx]; exact HF.out.at i hil
      have HT : Hid (l.take (i + 1) = l.take i ++ [x]) := by show _ = _; rw [List.take_add_one, ← hx]; simp [List.getD, hil]
      rw [hx] at cx
      have hKx := fun wx => Key_any x wx hx64
      have hwf : (Lit.int .u64 ((key x : Nat) : Int)).wf = true := kL_wf (by have := key_le x; omega)
      clear hx cx0 hil
      go_wp2_with (first
        | (go_at_call 55; refine (hKx _).mono ?_; rintro e w2 ⟨rfl, hw2⟩; rw [hw2]; clear hw2 w2)
        | (at_mapUpdate; refine wpList_mapUpdate_own _ rfl _ _ _ 118 rfl 41 119 law22 Try.underlying118 (unitElem (H := Unit)) w.heap.size i D rfl hown (by unfold maxLen; omega) _ _ _ rfl rfl (keyOf_int_mk Try.underlying41 hwf) _ [] unitElem_mk ?_; intro w3 hown3 hg3)
        | go_in)
      have k3 : Keep w w3 := Below.grown kw hg3 kw.le (fun b hb => by cases hb; exact Nat.le_refl _)
      refine ⟨⟨i + 1, _, by go_num, by omega, ?_, hown3, k3⟩, ?_⟩
      · show Met _ _
        rw [HT.out]
        exact hD.out.put x _
      · simp [intOf]; omega
    · have hic : ¬ (i : Int) < (n : Int) := by omega
      obtain rfl : i = n := by omega
      have HD : Hid (Met D l) := by have := hD.out; rw [← HN.out, List.take_length] at this; exact this
      obtain ⟨i0, hi0, hz0, hz1, hz2⟩ := info_parts i23
      have hsz1 : Hid (i0.size = 1) := hz1
      have hdel : keyOf Try.prog 41 (.int .u64 18437736874454810625) = some (kL 18437736874454810625) := keyOf_int_mk Try.underlying41 (kL_wf (k := 18437736874454810625) (by omega))
      clear hD
      go_wp2_with (first
        | (at_delete; refine wpList_delete_own _ rfl _ _ 118 41 rfl 119 law22 Try.underlying118 (unitElem (H := Unit)) w.heap.size i D rfl hown _ _ rfl hdel ?_; intro w4 hown4 ht4; obtain ⟨s, hs⟩ : ∃ s, Maps.size (D.del (kL 18437736874454810625)) = s := ⟨_, rfl⟩; have hsn : s ≤ i := by rw [← hs]; exact hown4.size_le)
        | (at_len; refine wpList_len_own _ rfl _ 118 rfl 41 119 Try.underlying118 (unitElem (H := Unit)) w.heap.size i _ rfl hown4 ?_; rw [hs])
        | (at_make; refine wpList_make_own _ rfl _ _ 46 rfl w.heap.size 34 i0 _ 1 Try.underlying46 hi0 hz0 hz1 _ _ _ s rfl rfl rfl (by rw [hz2]; omega) (by unfold maxLen; omega) (by have := ht4.grown.size; have := kw.le; omega) ?_; intro w5 hrow5 hg5)
        | (at_range; refine wpList_range_own _ rfl _ 118 rfl 41 119 law22 Try.underlying118 (unitElem (H := Unit)) w.heap.size i _ rfl (hown4.kept hg5 (by simp)) ?_; intro w6 hrg6 hg6 hs6)
        | go_in)
      have k4 : Keep w w4 := Below.grown kw ht4.grown kw.le (fun b hb => by cases hb; exact Nat.le_refl _)
      have k5 : Keep w w5 := Below.grown k4 hg5 k4.le (fun b hb => by cases hb)
      have k6 : Hid (Keep w w6) := Below.grown k5 hg6 k5.le (fun b hb => by cases hb)
      have hrow6 : Hid (w6.ownsRow w.heap.size 34 1 (.slice (some ⟨w4.heap.size, 0, none⟩) 0 s) 0 (UF (([] : List Nat).map aK))) := own_grown hrow5 hg6 (fun b hb e => by cases e)
      rw [hs] at hrg6
      have hrg60 : Hid (w6.ranges (H := Unit) Try.prog 41 (unitElem (H := Unit)) w.heap.size w5.heap.size i (D.del (kL 18437736874454810625)) (Maps.has (D.del (kL 18437736874454810625))) s) := hrg6
      have hle5 : w.heap.size ≤ w5.heap.size := k5.le
      have hAt : ∀ k wx, Calls Try.prog 69 #[.int .u64 ((k : Nat) : Int)] wx fun e w' => e = .returned (.tuple #[.float .f64 (aK k), .int .i64 (atE k)]) ∧ w' = wx := fun k wx => At_any k wx
      clear hown kw hown4 ht4 hg5 hg6 hs6 hrg6 hrow5 k4 k5 hs
      go_loopw [6] (fun v wr => ∃ (left : Lit → Bool) (cnt : Nat) (ks : List Nat) (m : Nat), v = .slice (some ⟨w4.heap.size, 0, none⟩) m s ∧ Hid (ks.length = m) ∧ wr.ranges (H := Unit) Try.prog 41 (unitElem (H := Unit)) w.heap.size w5.heap.size i (D.del (kL 18437736874454810625)) left cnt ∧ Hid (Clt (D.del (kL 18437736874454810625)) left ks) ∧ m + cnt ≤ s ∧ wr.ownsRow w.heap.size 34 1 (.slice (some ⟨w4.heap.size, 0, none⟩) m s) m (UF (ks.map aK)) ∧ Keep w wr) (fun _ wr => wr.rangeLeft w.heap.size w5.heap.size)
      case atStart => exact ⟨_, s, [], 0, rfl, rfl, hrg60.out, Clt.start _, by omega, hrow6.out, k6.out⟩
      case round =>
        obtain ⟨left, cnt, ks, m, rfl, hm, hrg, hc, hms, hown, kw⟩ := hrel
        clear hrg60 hrow6 k6
        go_wp2_with (first
          | (at_next; refine wpList_next_ranges _ rfl _ rfl 41 law22 (unitElem (H := Unit)) (Value.int .u64) (fun _ : Unit => Value.agg #[]) (fun key kl hkey => by obtain ⟨x, rfl, _⟩ := Maps.keyOf_int_inv Try.underlying41 hkey; exact ⟨x, rfl⟩) (fun v y hv => ⟨(), (unitElem_inv hv).1⟩) w.heap.size w5.heap.size i _ _ _ rfl hrg ?_ ?_)
          | go_in)
        · intro _ hl0
          have HE : Hid (∀ M : List Nat, M.Perm (ks.map aK) → (M.Pairwise fun x y => key x ≤ key y) → Dst l M ∧ M.length = m) := by
            intro M h1 h2
            refine ⟨Dst.of_keys (Clt.all HD.out hc.out hl0) hc.out.nodup h1 h2, ?_⟩
            rw [h1.length_eq, List.length_map]; exact hm.out
          have hF2 : F64 (ks.map aK) := by
            intro x hx
            obtain ⟨k, _, rfl⟩ := List.mem_map.1 hx
            exact aK_lt k
          have hS := fun wx (hw : wx.ownsRow w.heap.size 34 1 (.slice (some ⟨w4.heap.size, 0, none⟩) m s) m (UF (ks.map aK))) => hSort w.heap.size w4.heap.size s m (ks.map aK) wx hF2 (by rw [List.length_map]; exact hm.out) (by omega) hw
          have hgw : w.heap.size ≤ w4.heap.size := by
            obtain ⟨h1, -⟩ := own_block hown (b := w4.heap.size) rfl
            exact h1
          go_wp2_with (go_at_call 70; refine (hS _ hown).mono ?_; rintro e w9 ⟨⟨v, rfl⟩, ⟨M, p1, p2, p3⟩, g9⟩)
          go_ret
          obtain ⟨q1, q2⟩ := HE.out M p1 p2
          rw [← q2] at p3 ⊢
          refine ⟨_, _, M, rfl, q1, p3, Below.grown kw g9 kw.le (fun b hb => by cases hb; exact hgw)⟩
        · intro x c2 kl yd w7 cnt7 hkey hlk hv hat hrg7 hlt hg7 hs7 hen
          obtain ⟨x', ex, rfl, hwf⟩ := Maps.keyOf_int_inv Try.underlying41 hkey
          cases ex
          obtain ⟨k, hk⟩ : ∃ k : Nat, x = ((k : Nat) : Int) := ⟨x.toNat, by simp [Lit.wf, IntKind.min, IntKind.max, IntKind.bits, IntKind.signed] at hwf; omega⟩
          subst hk
          have hcn : Hid (Clt (D.del (kL 18437736874454810625)) (fun z => left z && !z.sameKey (kL k)) (ks ++ [k])) := hc.out.step hlk (has_true_of_atKey hat)
          have hown7 := own_grown hown hg7 (fun b hb e => own_ne_iter hown hrg (by rw [hb]; exact e.symm))
          have k7 : Keep w w7 := Below.grown kw hg7 kw.le (fun b hb => by cases hb; exact hle5)
          have hl7 := hrg.left_eq
          have HM1 : Hid ((ks ++ [k]).length = m + 1) := by show _ = _; rw [List.length_append, hm.out]; rfl
          have hAk := hAt k
          have HU : Hid (UF ((ks ++ [k]).map aK) = UF (ks.map aK) ++ UF [aK k]) := by show _ = _; simp [UF]
          clear hs7 hown hg7 hkey hlk hv hat hwf kw hAt
          go_wp2_with (first
            | (go_at_call 69; refine (hAk _).mono ?_; rintro e w8 ⟨rfl, hw8⟩; rw [hw8]; clear hw8 w8)
            | (at_builtin; refine wpList_append_fits _ rfl _ _ 46 rfl w.heap.size 34 i0 1 Try.underlying46 hi0 hz1 w4.heap.size m s (UF (ks.map aK)) rfl (own_keep hown7 ((Keep.refl _).alloc _)) ⟨w7.heap.size, 0, none⟩ 1 1 (UF [aK k]) rfl rfl (newsF w7 (aK k)) (UF_one _) (by omega) ?_; intro w9 hown9 hg9)
            | go_in)
          have hra := hrg7.alloc (Obj.cells #[Value.float .f64 (aK k)] 34)
          have hoa := own_keep hown7 ((Keep.refl w7).alloc (Obj.cells #[Value.float .f64 (aK k)] 34))
          have hrg9 := hra.kept hg9 (own_ne_map hoa hra.owns) (own_ne_iter hoa hra)
          have hgw : w.heap.size ≤ w4.heap.size := (own_block hown7 (b := w4.heap.size) rfl).1
          have k9 : Keep w w9 := Below.grown (k7.alloc _) hg9 (k7.alloc _).le (fun b hb => by cases hb; exact hgw)
          refine ⟨⟨_, cnt7, ks ++ [k], m + 1, rfl, HM1, hrg9, hcn, by omega, ?_, k9⟩, ?_⟩
          · rw [HU.out]; exact hown9
          · rw [hrg9.left_eq, hl7]; exact hlt
end Go.Proofs.Ytaogjiffnebnkaa
set_option linter.unusedVariables false
set_option linter.unusedSimpArgs false
namespace Go.Proofs.Ytaogjiffnebnkaa
open Go.RowKit Go.Shelf Go.Sort
/-- A number as it lies in a row, out of its bits. -/
def eF (x : UInt64) : Value := .float .f64 x.toNat
def cF (x y : UInt64) : Int := cmpV (key x.toNat) (key y.toNat)
theorem ltF (x y : UInt64) : ltOf cF x y = decide (key x.toNat < key y.toNat) := by
  unfold ltOf cF
  rw [cmpI_lt]
  unfold kI
  by_cases h : key x.toNat < key y.toNat
  · rw [decide_eq_true h, decide_eq_true (by omega)]
  · rw [decide_eq_false h, decide_eq_false (by omega)]
theorem swoF : SWO (ltOf cF) := ⟨fun x => by rw [ltF]; simp, fun x y z h1 h2 => by rw [ltF] at *; simp at *; omega, fun x y z h1 h2 => by rw [ltF] at *; simp at *; omega⟩
/-- Numbers below 2^64 as words and back. -/
theorem back64 {l : List Nat} (h : F64 l) : (l.map UInt64.ofNat).map UInt64.toNat = l := by
  rw [List.map_map]
  conv => rhs; rw [← List.map_id l]
  refine List.map_congr_left fun x hx => ?_
  show (UInt64.ofNat x).toNat = x
  rw [UInt64.toNat_ofNat']
  exact Nat.mod_eq_of_lt (h x hx)
theorem sorted_block {w : World} {g k : Nat} {os : Array Obj} {cur : Array Value} (d : Array UInt64) (hb : w.heap[g]? = some (.cells cur 34 (0, 0))) : (sortWorld eF w g 0 k d os).heap[g]? = some (.cells (putCells eF 0 d cur) 34 (0, 0)) := by
  have hg : g < w.heap.size := (Array.getElem?_eq_some_iff.1 hb).1
  unfold sortWorld
  rw [heap_grow_old _ _ (by simpa using hg)]
  simp [putRow, mapBlock, Sort.ahead, Array.getElem?_modify, hb, onCells]
theorem sorted_grown (w : World) (g k : Nat) (os : Array Obj) (d : Array UInt64) : w.grownBy (sortWorld eF w g 0 k d os) (some g) := by
  refine ⟨rfl, rfl, rfl, by simp [sortWorld], fun j hj hne => ?_⟩
  unfold sortWorld
  rw [heap_grow_old _ _ (by simpa using hj)]
  have : g ≠ j := fun e => hne (by rw [e])
  simp [putRow, mapBlock, Sort.ahead, Array.getElem?_modify, this]
theorem sorted_take (cur : Array Value) (d : Array UInt64) (h : d.size ≤ cur.size) : (putCells eF 0 d cur).toList.take d.size = d.toList.map eF := by
  apply List.ext_getElem?
  intro j
  by_cases hj : j < d.size
  · rw [List.getElem?_take_of_lt hj, Array.getElem?_toList]
    simp [putCells, hj, show j < cur.size by omega]
  · rw [List.getElem?_take_eq_none (by omega), List.getElem?_eq_none (by simp; omega)]
/-- The library's sort. -/
theorem sortC : SortC := by
  intro B g cap n l w hF hn hl hown
  obtain ⟨d, hd⟩ : ∃ d : Array UInt64, d = (l.map UInt64.ofNat).toArray := ⟨_, rfl⟩
  have hds : d.size = n := by rw [hd]; simp [hn]
  have hdl : d.toList.map UInt64.toNat = l := by rw [hd]; exact back64 hF
  obtain ⟨cur, hh, hB, hnc, hcm, hcs, htk⟩ : ∃ cur : Array Value, w.heap[g]? = some (.cells cur 34 (0, 0)) ∧ B ≤ g ∧ n ≤ cap ∧ cap ≤ maxLen ∧ cur.size = cap ∧ cur.toList.take n = UF l := by
    rcases hown.2 with ⟨h1, _⟩ | ⟨g', cap', cur, hv, hg, hh, r1, r2, r3, r4⟩
    · cases h1
    · injection hv with e1 e2 e3
      injection e1 with e1
      injection e1 with e1
      subst e1
      subst e3
      exact ⟨cur, hh, hg, r1, r2, by omega, by rw [Nat.mul_one] at r4; exact r4⟩
  have hblk : g < w.heap.size := (Array.getElem?_eq_some_iff.1 hh).1
  have hA : Arr w g l := ⟨cur, hh, by rw [hn]; exact htk⟩
  have hH : Holds eF w g 0 d := by
    intro j hj
    have hjl : j < l.length := by omega
    refine ⟨?_, hA.frozen (0 + j)⟩
    rw [Nat.zero_add, hA.cell hjl]
    have e : l.getD j 0 = (d[j]!).toNat := by
      have : (d.toList.map UInt64.toNat)[j]? = l[j]? := by rw [hdl]
      rw [List.getD, ← this]
      simp [hj]
    rw [e]
    rfl
  have eg : ∀ args w, (callFunc 71 args).run Try.prog w = .ok (.enter 71 args) w := enters_of Try.func71 (by kernel_rfl) rfl
  have hcmp : CmpReads Try.prog 71 #[] eF cF g 0 d.size w := by
    intro m os dk hs x y
    have := Compare_any x.toNat y.toNat (sortWorld eF w g 0 m dk os) x.toNat_lt y.toNat_lt
    exact this.mono fun e w' ⟨h1, h2⟩ => ⟨h1, 0, h2⟩
  have hcon := Any.slices_SortFunc Try.sortF eF (fun _ => rfl) cF swoF 71 #[] g 0 cap d w eg hcmp.lays hH hblk (by omega)
  change Calls Try.prog 70 _ _ _ at hcon
  rw [hds] at hcon
  refine hcon.mono ?_
  rintro e w' ⟨rfl, d', k, os, hp, hs, rfl⟩
  have hd's : d'.size = n := by rw [hp.1, hds]
  have hperm : d'.toList.Perm d.toList := by
    have h3 := hp.2.2
    have e1 : d'.extract 0 n = d' := by rw [← hd's]; exact Array.extract_size
    have e2 : d.extract 0 n = d := by rw [← hds]; exact Array.extract_size
    rw [e1, e2] at h3
    exact h3
  refine ⟨⟨_, rfl⟩, ⟨d'.toList.map UInt64.toNat, ?_, ?_, ?_⟩, sorted_grown _ _ _ _ _⟩
  · have := hperm.map UInt64.toNat
    rw [hdl] at this
    exact this
  · rw [List.pairwise_map, List.pairwise_iff_getElem]
    intro i j hi hj hij
    have := hs i j (Nat.zero_le _) hij (by simpa [hd's] using hj)
    rw [ltF] at this
    have hi2 : i < d'.size := by simpa using hi
    have hj2 : j < d'.size := by simpa using hj
    simp [hi2, hj2] at this
    simpa using this
  · have hu : UF (d'.toList.map UInt64.toNat) = d'.toList.map eF := by unfold UF; rw [List.map_map]; rfl
    rw [hu]
    refine ⟨by simp [hd's], .inr ⟨g, cap, _, rfl, hB, sorted_block d' hh, hnc, hcm, by simp [putCells, hcs], ?_⟩⟩
    rw [Nat.mul_one, ← hd's]
    exact sorted_take cur d' (by omega)
theorem Distinct_any (p : Option Addr) (c n : Nat) (l : List Nat) (w : World) (hF : F64 l) (hn : l.length = n) (hl : n ≤ 17592186044414) (hL : RdV w p l) :
    Calls Try.prog 48 #[.slice p n c] w fun e w' => ∃ g cap D, e = .returned (.slice (some ⟨g, 0, none⟩) D.length cap) ∧ Dst l D ∧ w'.ownsRow w.heap.size 34 1 (.slice (some ⟨g, 0, none⟩) D.length cap) D.length (UF D) ∧ Keep w w' := Distinct_of sortC p c n l w hF hn hl hL
end Go.Proofs.Ytaogjiffnebnkaa
