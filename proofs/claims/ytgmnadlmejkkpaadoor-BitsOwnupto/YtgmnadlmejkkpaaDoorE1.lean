import Derived.Test.YtgmnadlmejkkpaaDoorD5
set_option linter.unusedVariables false
set_option linter.unusedSimpArgs false
namespace Go.Proofs.YtgmnadlmejkkpaaDoor
open Go.RowKit
theorem and_any (x y : Nat) (w : World) (hx : x < 18446744073709551616) (hy : y < 18446744073709551616) :
    Calls Tryd.prog 55 #[.int .u64 (x : Nat), .int .u64 (y : Nat)] w fun e w' => e = .returned (.int .u64 ((x &&& y : Nat) : Int)) ∧ w' = w := by
  have h := u64_and_nat x y hx hy
  go_enter Tryd.func55, Tryd.ntmps55
  go_wp2
  go_ret
  exact ⟨rfl, rfl⟩
theorem or_any (x y : Nat) (w : World) (hx : x < 18446744073709551616) (hy : y < 18446744073709551616) :
    Calls Tryd.prog 56 #[.int .u64 (x : Nat), .int .u64 (y : Nat)] w fun e w' => e = .returned (.int .u64 ((x ||| y : Nat) : Int)) ∧ w' = w := by
  have h := u64_or_nat x y hx hy
  go_enter Tryd.func56, Tryd.ntmps56
  go_wp2
  go_ret
  exact ⟨rfl, rfl⟩
theorem xor_any (x y : Nat) (w : World) (hx : x < 18446744073709551616) (hy : y < 18446744073709551616) :
    Calls Tryd.prog 57 #[.int .u64 (x : Nat), .int .u64 (y : Nat)] w fun e w' => e = .returned (.int .u64 ((x ^^^ y : Nat) : Int)) ∧ w' = w := by
  have h := u64_xor_nat x y hx hy
  go_enter Tryd.func57, Tryd.ntmps57
  go_wp2
  go_ret
  exact ⟨rfl, rfl⟩
/-- A function of two words, by its number. -/
def Does (F : Nat) (f : Nat → Nat → Nat) : Prop := ∀ x y, x < 18446744073709551616 → y < 18446744073709551616 → f x y < 18446744073709551616 ∧ ∀ w, Calls Tryd.prog F #[.int .u64 (x : Nat), .int .u64 (y : Nat)] w fun e w' => e = .returned (.int .u64 ((f x y : Nat) : Int)) ∧ w' = w
theorem does_and : Does 55 (fun x y => x &&& y) := fun x y hx hy => ⟨and_lt y hx, fun w => and_any x y w hx hy⟩
theorem does_or : Does 56 (fun x y => x ||| y) := fun x y hx hy => ⟨or_lt hx hy, fun w => or_any x y w hx hy⟩
theorem does_xor : Does 57 (fun x y => x ^^^ y) := fun x y hx hy => ⟨Nat.xor_lt_two_pow (n := 64) hx hy, fun w => xor_any x y w hx hy⟩
/-- Word by word. -/
def zw (f : Nat → Nat → Nat) (l m : List Nat) : List Nat := List.zipWith f l m
theorem zw_length (f : Nat → Nat → Nat) {l m : List Nat} (h : l.length = m.length) : (zw f l m).length = l.length := by unfold zw; rw [List.length_zipWith, h, Nat.min_self]
theorem zw_get (f : Nat → Nat → Nat) {l m : List Nat} (h : l.length = m.length) {k : Nat} (hk : k < l.length) : (zw f l m).getD k 0 = f (l.getD k 0) (m.getD k 0) := by
  unfold zw
  simp [List.getD, List.getElem?_zipWith, hk, show k < m.length by omega]
theorem zw_take (f : Nat → Nat → Nat) {l m : List Nat} (h : l.length = m.length) {k : Nat} (hk : k < l.length) : (zw f l m).take (k + 1) = (zw f l m).take k ++ [f (l.getD k 0) (m.getD k 0)] := by
  have e := zw_length f h
  rw [List.take_succ_eq_append_getElem (by omega)]
  have := zw_get f h hk
  rw [← this]
  simp [List.getD, show k < (zw f l m).length by omega]
theorem zw_w64 {F : Nat} {f : Nat → Nat → Nat} (hd : Does F f) {l m : List Nat} (hl : W64 l) (hm : W64 m) : W64 (zw f l m) := by
  intro x hx
  unfold zw at hx
  rw [List.mem_iff_getElem?] at hx
  obtain ⟨i, hi⟩ := hx
  rw [List.getElem?_zipWith] at hi
  cases e1 : l[i]? with
  | none => rw [e1] at hi; simp at hi
  | some a =>
    cases e2 : m[i]? with
    | none => rw [e1, e2] at hi; simp at hi
    | some b =>
      rw [e1, e2] at hi
      simp at hi
      rw [← hi]
      exact (hd a b (hl a (List.mem_of_getElem? e1)) (hm b (List.mem_of_getElem? e2))).1
theorem take_set_snoc (l : List Nat) (k x : Nat) (h : k < l.length) : (l.set k x).take (k + 1) = l.take k ++ [x] := by
  rw [List.take_succ_eq_append_getElem (by rw [List.length_set]; exact h), List.take_set_of_le (Nat.le_refl _)]
  simp

end Go.Proofs.YtgmnadlmejkkpaaDoor
