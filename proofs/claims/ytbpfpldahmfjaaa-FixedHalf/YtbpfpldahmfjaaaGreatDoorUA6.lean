import Derived.Test.YtbpfpldahmfjaaaGreatDoorProg
import Derived.WalkKit
import Derived.WalkSpells
import Derived.WalkLawsBesides
import Derived.Laws.CopyOwn
import Derived.Deep.Draws
import Derived.Deep.QuietTactic
import Derived.BigQuiet
import Derived.Laws.Externs
set_option linter.unusedVariables false
set_option linter.unusedSimpArgs false
namespace Go.Proofs.YtbpfpldahmfjaaaGreatDoor.Su
open Go.RowKit
/-- An equation laid aside. -/
def Hid (p : Prop) : Prop := p
theorem Hid.out {p : Prop} (h : Hid p) : p := h
theorem add64 (x y c : Nat) (hc : c ≤ 1) (w : World) :
    (callFunc 27 #[.int .u64 (x : Nat), .int .u64 (y : Nat), .int .u64 (c : Nat)]).run Tryz.prog w =
      .ok (.value (.tuple #[.int .u64 (((x + y + c) % 18446744073709551616 : Nat) : Int), .int .u64 (((x + y + c) / 18446744073709551616 : Nat) : Int)])) w := by
  rw [run_callFunc_extern Tryz.func27 (by kernel_rfl) (by kernel_rfl) (by kernel_rfl) (e := add64Entry) (by kernel_rfl), run_add64 x y c (by omega) (by omega) (by omega) (by omega)]
  simp only [Result.andThen]
  congr 5 <;> omega
/-- A slice of numbers that can be read. -/
def Rd (w : World) (a : Option Addr) (l : List Int) : Prop :=
  ∀ j, j < l.length → ∃ b o, a = some ⟨b, o, none⟩ ∧ w.cell? ⟨b, o + j, none⟩ = some (.int .i64 (l.getD j 0))
/-- What was there is as it was. -/
def Keep (w w' : World) : Prop := Below w.heap.size w w'
theorem Keep.refl (w : World) : Keep w w := Below.refl _ _
theorem Keep.trans {a b c : World} (h : Keep a b) (k : Keep b c) : Keep a c := Below.trans h (Below.mono k h.size)
theorem Keep.alloc {a b : World} (h : Keep a b) (o : Obj) : Keep a (b.alloc o) := Below.alloc h h.size o
def I64 (l : List Int) : Prop := ∀ x ∈ l, -9223372036854775808 ≤ x ∧ x ≤ 9223372036854775807
theorem I64_getD {l : List Int} (h : I64 l) (j : Nat) : -9223372036854775808 ≤ l.getD j 0 ∧ l.getD j 0 ≤ 9223372036854775807 := by
  by_cases hj : j < l.length
  · exact h _ (by simp [List.getD, hj])
  · simp [List.getD, List.getElem?_eq_none (Nat.le_of_not_lt hj)]
theorem sum_take (l : List Int) (k : Nat) : (l.take (k + 1)).sum = (l.take k).sum + l.getD k 0 := by
  by_cases h : k < l.length
  · rw [List.take_succ_eq_append_getElem h, List.sum_append]
    have : l.getD k 0 = l[k] := by simp [List.getD, h]
    rw [this, List.sum_cons, List.sum_nil, Int.add_zero]
  · rw [List.take_of_length_le (by omega), List.take_of_length_le (by omega)]; simp [List.getD, List.getElem?_eq_none (Nat.le_of_not_lt h)]
theorem sum_bound {l : List Int} (h : I64 l) : ∀ k : Nat, -(9223372036854775808 * (k : Int)) ≤ (l.take k).sum ∧ (l.take k).sum ≤ 9223372036854775808 * (k : Int)
  | 0 => by simp
  | k + 1 => by
    have h1 := sum_bound h k
    have h2 := I64_getD h k
    rw [sum_take]
    omega
/-- The answer of a sum. -/
def sumV (T : Int) : Int := if -9223372036854775808 ≤ T ∧ T ≤ 9223372036854775807 then T else 0
def sumE (T : Int) : Int := if -9223372036854775808 ≤ T ∧ T ≤ 9223372036854775807 then 0 else 41
end Go.Proofs.YtbpfpldahmfjaaaGreatDoor.Su
set_option linter.unusedVariables false
set_option linter.unusedSimpArgs false
namespace Go.Proofs.YtbpfpldahmfjaaaGreatDoor.Su
open Go.RowKit
set_option maxRecDepth 100000 in
set_option maxHeartbeats 800000 in
theorem Sum_any (a : Option Addr) (ca : Nat) (l : List Int) (w : World) (hl : l.length ≤ 70368744177664) (hr : Rd w a l) (hm : I64 l) :
    Calls Tryz.prog 10 #[.slice a l.length ca] w fun e w' => e = .returned (.tuple #[.int .i64 (sumV l.sum), .int .i64 (sumE l.sum)]) ∧ Keep w w' := by
  have hb := sum_bound hm
  go_enter Tryz.func10, Tryz.ntmps10
  go_wp2_with fail
  go_loopw [4, 5, 12] (fun hv lv iv wr => ∃ (k h lo : Nat), k ≤ l.length ∧ iv = .int .i64 k ∧ hv = .int .u64 (h : Nat) ∧ lv = .int .u64 (lo : Nat) ∧ h < 18446744073709551616 ∧ lo < 18446744073709551616 ∧ Hid ((lo : Int) = (l.take k).sum % 18446744073709551616) ∧ Hid ((h : Int) = (l.take k).sum / 18446744073709551616 % 18446744073709551616) ∧ w = wr) (fun _ _ iv _ => l.length - (intOf iv).toNat)
  case atStart => exact ⟨0, 0, 0, by omega, rfl, rfl, rfl, by omega, by omega, by show _ = _; simp, by show _ = _; simp, rfl⟩
  case round =>
    obtain ⟨k, h, lo, hk, rfl, rfl, rfl, hh, hlo, elo, eh, hw⟩ := hrel
    subst hw
    by_cases hkl : k < l.length
    · obtain ⟨b1, o1, rfl, hc⟩ := hr k hkl
      obtain ⟨v, hv⟩ : ∃ v, l.getD k 0 = v := ⟨_, rfl⟩
      obtain ⟨hv1, hv2⟩ := I64_getD hm k
      have hst := sum_take l k
      rw [hv] at hc hv1 hv2 hst
      obtain ⟨u, hu⟩ : ∃ u : Nat, (u : Int) = v % 18446744073709551616 := ⟨(v % 18446744073709551616).toNat, by omega⟩
      obtain ⟨s, hs⟩ : ∃ s : Nat, (s : Int) = v / 9223372036854775808 % 18446744073709551616 := ⟨(v / 9223372036854775808 % 18446744073709551616).toNat, by omega⟩
      have hul : u < 18446744073709551616 := by omega
      have hA1 : ∀ wx, (callFunc 27 #[.int .u64 (lo : Nat), .int .u64 (u : Nat), .int .u64 0]).run Tryz.prog wx = _ := fun wx => add64 lo u 0 (by omega) wx
      obtain ⟨lo', hlo'⟩ : ∃ x, (lo + u + 0) % 18446744073709551616 = x := ⟨_, rfl⟩
      obtain ⟨cy, hcy⟩ : ∃ x, (lo + u + 0) / 18446744073709551616 = x := ⟨_, rfl⟩
      have hc1 : cy ≤ 1 := by omega
      have hA2 := fun wx => add64 h s cy hc1 wx
      obtain ⟨h', hh'⟩ : ∃ x, (h + s + cy) % 18446744073709551616 = x := ⟨_, rfl⟩
      have HL : Hid ((lo' : Int) = (l.take (k + 1)).sum % 18446744073709551616) := by
        show _ = _
        have := elo.out
        rw [hst]; omega
      have HH : Hid ((h' : Int) = (l.take (k + 1)).sum / 18446744073709551616 % 18446744073709551616) := by
        show _ = _
        have h1 := elo.out
        have h2 := eh.out
        rw [hst]
        generalize (l.take k).sum = T at *
        omega
      rw [hlo', hcy] at hA1
      rw [hh'] at hA2
      generalize (h + s + cy) / 18446744073709551616 = junk at hA2
      have hlb : lo' < 18446744073709551616 := by omega
      have hhb : h' < 18446744073709551616 := by omega
      have q1 : IntKind.u64.wrap v = (u : Int) := by rw [IntKind.wrap_u64]; exact hu.symm
      have q2 : IntKind.u64.wrap (v / 9223372036854775808) = (s : Int) := by rw [IntKind.wrap_u64]; exact hs.symm
      clear hv hst elo eh hlo' hcy hh' hu hs
      go_wp2_with fail
      go_roundw
      case rel => exact ⟨k + 1, h', lo', by omega, by go_num, rfl, rfl, hhb, hlb, HL, HH, by first | rfl | trivial⟩
      case measure => simp [intOf]; omega
    · have hke : k = l.length := by omega
      subst hke
      have hb1 := hb l.length
      rw [List.take_of_length_le (Nat.le_refl _)] at elo eh hb1
      have h1 := elo.out
      have h2 := eh.out
      obtain ⟨T, hT⟩ : ∃ T, l.sum = T := ⟨_, rfl⟩
      rw [hT] at h1 h2 hb1
      have HT : Hid (l.sum = T) := hT
      clear hT elo eh
      obtain ⟨sm, hsm⟩ : ∃ sm, (if (lo : Int) < 9223372036854775808 then (lo : Int) else (lo : Int) - 18446744073709551616) = sm := ⟨_, rfl⟩
      have q1 : IntKind.i64.wrap (lo : Int) = sm := by rw [IntKind.wrap_i64, ← hsm]; split <;> omega
      obtain ⟨u, hu⟩ : ∃ u : Nat, (u : Int) = sm / 9223372036854775808 % 18446744073709551616 := ⟨(sm / 9223372036854775808 % 18446744073709551616).toNat, by omega⟩
      have q2 : IntKind.u64.wrap (sm / 9223372036854775808) = (u : Int) := by rw [IntKind.wrap_u64]; exact hu.symm
      by_cases hin : -9223372036854775808 ≤ T ∧ T ≤ 9223372036854775807
      · have e1 : Hid (sm = T) := by show _ = _; rw [← hsm]; split <;> omega
        have hd : ((h : Int) == (u : Int)) = true := by simp; have := e1.out; omega
        have hhu : h = u := by have := e1.out; omega
        have HV : Hid (sumV l.sum = sm) := by show _ = _; rw [HT.out, e1.out]; unfold sumV; rw [if_pos hin]
        have HE : Hid (sumE l.sum = 0) := by show _ = _; rw [HT.out]; unfold sumE; rw [if_pos hin]
        clear hsm hu h1 h2 hb hb1
        subst hhu
        go_wp2_with fail
        go_ret2
        exact ⟨by rw [HV.out, HE.out]; rfl, Keep.refl _⟩
      · have hne : h ≠ u := by
          intro e
          have e2 : (h : Int) = (u : Int) := by omega
          revert hsm
          split <;> intro hsm <;> omega
        have hd : ((h : Int) == (u : Int)) = false := by simp; omega
        have HV : Hid (sumV l.sum = 0) := by show _ = _; rw [HT.out]; unfold sumV; rw [if_neg hin]
        have HE : Hid (sumE l.sum = 41) := by show _ = _; rw [HT.out]; unfold sumE; rw [if_neg hin]
        clear hsm hu h1 h2 hb hb1
        go_wp2_with fail
        go_ret2
        exact ⟨by rw [HV.out, HE.out]; rfl, Keep.refl _⟩
end Go.Proofs.YtbpfpldahmfjaaaGreatDoor.Su
set_option linter.unusedVariables false
set_option linter.unusedSimpArgs false
namespace Go.Proofs.YtbpfpldahmfjaaaGreatDoor.Su
open Go.RowKit
/-- Two words in a block of their own. -/
def Two (w : World) (g x y : Nat) : Prop := w.heap[g]? = some (.cells #[.int .u64 (x : Nat), .int .u64 (y : Nat)] 35 (0, 0))
theorem Two.cells {w : World} {g x y : Nat} (h : Two w g x y) : w.cell? ⟨g, 0, none⟩ = some (.int .u64 (x : Nat)) ∧ w.cell? ⟨g, 1, none⟩ = some (.int .u64 (y : Nat)) := by
  refine ⟨?_, ?_⟩ <;> rw [cell_of_row w g _ _ 35 (0, 0) h] <;> rfl
end Go.Proofs.YtbpfpldahmfjaaaGreatDoor.Su
set_option linter.unusedVariables false
set_option linter.unusedSimpArgs false
namespace Go.Proofs.YtbpfpldahmfjaaaGreatDoor.Su
open Go.RowKit
theorem rd_two (w : World) (x y : Int) : Rd (w.alloc (Obj.cells #[Value.int IntKind.i64 x, Value.int IntKind.i64 y] 2)) (some ⟨w.heap.size, 0, none⟩) [x, y] := by
  have h1 : (w.alloc (Obj.cells #[Value.int IntKind.i64 x, Value.int IntKind.i64 y] 2)).heap[w.heap.size]? = some (Obj.cells #[Value.int IntKind.i64 x, Value.int IntKind.i64 y] 2 (0, 0)) := heap_alloc_new w _
  intro j hj
  refine ⟨_, _, rfl, ?_⟩
  rw [cell_of_row _ _ _ _ 2 (0, 0) h1]
  match j, hj with
  | 0, _ => rfl
  | 1, _ => rfl
set_option maxRecDepth 100000 in
set_option maxHeartbeats 400000 in
theorem Add_any (x y : Int) (w : World) (hx : -9223372036854775808 ≤ x ∧ x ≤ 9223372036854775807) (hy : -9223372036854775808 ≤ y ∧ y ≤ 9223372036854775807) :
    Calls Tryz.prog 11 #[.int .i64 x, .int .i64 y] w fun e w' => e = .returned (.tuple #[.int .i64 (sumV (x + y)), .int .i64 (sumE (x + y))]) ∧ Keep w w' := by
  go_enter Tryz.func11, Tryz.ntmps11
  go_wp2_with fail
  have hk : Keep w (w.alloc (Obj.cells #[Value.int IntKind.i64 x, Value.int IntKind.i64 y] 2)) := (Keep.refl w).alloc _
  have hr := rd_two w x y
  generalize w.alloc _ = w1 at hk hr ⊢
  have hS := Sum_any (some ⟨w.heap.size, 0, none⟩) 2 [x, y] w1 (by simp) hr (by intro z hz; simp at hz; rcases hz with rfl | rfl; exact hx; exact hy)
  rw [show [x, y].sum = x + y by simp] at hS
  refine hS.mono ?_
  rintro e w2 ⟨rfl, k2⟩
  clear hS
  go_wp2_with fail
  go_ret2
  exact ⟨rfl, hk.trans k2⟩
end Go.Proofs.YtbpfpldahmfjaaaGreatDoor.Su
