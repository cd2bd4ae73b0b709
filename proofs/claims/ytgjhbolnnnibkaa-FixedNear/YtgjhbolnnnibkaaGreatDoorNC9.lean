import Derived.Test.YtgjhbolnnnibkaaGreatDoorProg
import Derived.Test.YtgjhbolnnnibkaaGreatDoorLK1
import Derived.Test.YtgjhbolnnnibkaaGreatDoorLE7
import Derived.Test.YtgjhbolnnnibkaaGreatDoorLF5
import Derived.Test.YtgjhbolnnnibkaaGreatDoorShelf
import Derived.Test.YtgjhbolnnnibkaaGreatDoorNC5
import Derived.WalkKit
import Derived.WalkSpells
import Derived.WalkLawsBesides
import Derived.Laws.CopyOwn
import Derived.Deep.Draws
import Derived.Deep.QuietTactic
import Derived.BigQuiet
import Derived.Laws.MathBits
import Derived.Laws.BytesArg
import Derived.Lib.OthersKept
import Derived.Deep.RegionWith
import Derived.WalkMore
import Derived.Deep.LoopGhost
import Derived.Laws.Externs
import Derived.Deep.Cut
import Derived.Deep.CutRange
import Derived.Deep.CutBlock
import Derived.Test.YtgjhbolnnnibkaaGreatDoorNC6
set_option linter.unusedVariables false
set_option linter.unusedSimpArgs false
namespace Go.Proofs.YtgjhbolnnnibkaaGreatDoor.Li
open Go.RowKit Lb Nr
/-- The bits of a number of the reference, without its sign. -/
def nb (inf : Bool) (M : Nat) (E : Int) : Nat := if inf then 9218868437227405312 else if 4503599627370496 ≤ M then (E + 1075).toNat * 4503599627370496 + (M - 4503599627370496) else M
def sg (ng : Bool) : Nat := if ng then 9223372036854775808 else 0
theorem or_sign (x : Nat) (h : x < 9223372036854775808) : bits .or .u64 (x : Int) 9223372036854775808 = ((x + 9223372036854775808 : Nat) : Int) := by
  rw [show (9223372036854775808 : Int) = ((9223372036854775808 : Nat) : Int) from rfl, u64_or_nat x _ (by omega) (by omega), Nat.or_comm]
  have := Nat.two_pow_add_eq_or_of_lt (i := 63) (b := x) h 1
  rw [Nat.mul_one, show (2 : Nat) ^ 63 = 9223372036854775808 from rfl] at this
  rw [← this]
  omega
theorem or_low (k m : Nat) (hk : k < 2048) (hm : m < 4503599627370496) : bits .or .u64 ((k : Int) * 4503599627370496) (m : Int) = ((k * 4503599627370496 + m : Nat) : Int) := by
  rw [show (k : Int) * 4503599627370496 = ((k * 4503599627370496 : Nat) : Int) by omega, u64_or_nat _ _ (by omega) (by omega)]
  have := Nat.two_pow_add_eq_or_of_lt (i := 52) (b := m) hm k
  rw [show (2 : Nat) ^ 52 = 4503599627370496 from rfl, Nat.mul_comm] at this
  rw [← this]
theorem and_low (m : Nat) (h1 : 4503599627370496 ≤ m) (h2 : m < 9007199254740992) : bits .and .u64 (m : Int) 4503599627370495 = ((m - 4503599627370496 : Nat) : Int) := by
  rw [show (4503599627370495 : Int) = ((4503599627370495 : Nat) : Int) from rfl, u64_and_nat m _ (by omega) (by omega), show m &&& 4503599627370495 = m % 4503599627370496 from Nat.and_two_pow_sub_one_eq_mod m 52]
  omega
set_option maxRecDepth 100000 in
set_option maxHeartbeats 1000000 in
theorem Bits_any (ng inf : Bool) (M : Nat) (E : Int) (hM : M < 9007199254740992) (hE : -1074 ≤ E ∧ E ≤ 971) (w : World) :
    Calls Tryz.prog 30 #[numV ng inf M E, wideV] w fun e w' => e = .returned (.int .u64 (nb inf M E + sg ng : Nat)) ∧ Keep w w' := by
  have HB : Hid (nb inf M E = if inf then 9218868437227405312 else if 4503599627370496 ≤ M then (E + 1075).toNat * 4503599627370496 + (M - 4503599627370496) else M) := rfl
  have hlt : nb inf M E < 9223372036854775808 := by
    unfold nb
    split
    · omega
    · split <;> omega
  have hor := or_sign (nb inf M E) hlt
  unfold numV wideV
  generalize nb inf M E = X at *
  cases inf
  · by_cases h : 4503599627370496 ≤ M
    · have v := HB.out
      simp only [Bool.false_eq_true, if_false, if_pos h] at v
      obtain ⟨k, hk⟩ : ∃ k : Nat, E + 1075 = k := ⟨(E + 1075).toNat, by omega⟩
      have d1 : decide ((4503599627370496 : Int) ≤ (M : Int)) = true := decide_eq_true (by omega)
      have x1 : wrap64 (E + 1074) = E + 1074 := IntWalk.wrap64_in _ (by omega)
      have x2 : wrap64 (E + 1074 + 1) = (k : Int) := by rw [show E + 1074 + 1 = (k : Int) by omega]; exact IntWalk.wrap64_in _ (by omega)
      have x3 : IntKind.u64.wrap (k : Int) = (k : Int) := by rw [IntKind.wrap_u64]; omega
      have x4 : IntKind.u64.wrap ((k : Int) * 4503599627370496) = (k : Int) * 4503599627370496 := by rw [IntKind.wrap_u64]; omega
      have hk2 : E + 1074 + 1 = (k : Int) := by omega
      have x5 := and_low M h hM
      have x6 := or_low k (M - 4503599627370496) (by omega) (by omega)
      rw [show k * 4503599627370496 + (M - 4503599627370496) = X by rw [v, show (E + 1075).toNat = k by omega]] at x6
      obtain ⟨m, hm⟩ : ∃ m, M - 4503599627370496 = m := ⟨_, rfl⟩
      rw [hm] at x5 x6
      clear HB v hm h hM hlt hk
      cases ng
      all_goals
        unfold sg
        go_enter Tryz.func30, Tryz.ntmps30
        go_wp2_with fail
        go_ret
        exact ⟨ret_int (by first | rfl | omega | simp), ((Keep.refl w).alloc _).alloc _⟩
    · have v := HB.out
      simp only [Bool.false_eq_true, if_false, if_neg h] at v
      have d1 : decide ((4503599627370496 : Int) ≤ (M : Int)) = false := decide_eq_false (by omega)
      subst v
      clear HB h hM hlt
      cases ng
      all_goals
        unfold sg
        go_enter Tryz.func30, Tryz.ntmps30
        go_wp2_with fail
        go_ret
        exact ⟨ret_int (by first | rfl | omega | simp), ((Keep.refl w).alloc _).alloc _⟩
  · have v := HB.out
    simp only [if_true] at v
    subst v
    clear HB hlt
    cases ng
    all_goals
      unfold sg
      go_enter Tryz.func30, Tryz.ntmps30
      go_wp2_with fail
      go_ret
      exact ⟨ret_int (by first | rfl | omega | simp), ((Keep.refl w).alloc _).alloc _⟩
end Go.Proofs.YtgjhbolnnnibkaaGreatDoor.Li
set_option linter.unusedVariables false
set_option linter.unusedSimpArgs false
namespace Go.Proofs.YtgjhbolnnnibkaaGreatDoor.Li
open Go.RowKit Lb Nr
theorem results_box5 {fn : Func} {t u : Tmp} (h : fn.results = #[.cell t 51, .tmp u]) (tmps : Array Value) (w : World) (g : Nat) (v0 v1 v2 v3 v4 : Value) (hp : tmps.getD t undef = .pointer (some ⟨g, 0, none⟩)) (hh : w.heap[g]? = some (.cells #[v0, v1, v2, v3, v4] 51 (0, 0))) :
    (results fn tmps).run Tryz.prog w = .ok (.tuple #[.agg #[v0, v1, v2, v3, v4], tmps.getD u undef]) w := by
  have c0 := cell_of_row _ _ 0 _ 51 (0, 0) hh
  have c1 := cell_of_row _ _ 1 _ 51 (0, 0) hh
  have c2 := cell_of_row _ _ 2 _ 51 (0, 0) hh
  have c3 := cell_of_row _ _ 3 _ 51 (0, 0) hh
  have c4 := cell_of_row _ _ 4 _ 51 (0, 0) hh
  simp only [List.getElem?_toArray, List.getElem?_cons_zero, List.getElem?_cons_succ] at c0 c1 c2 c3 c4
  have hp' : (tmps[t]?).getD undef = .pointer (some ⟨g, 0, none⟩) := by simpa using hp
  simp [results, h, hp, hp', go_sem, c0, c1, c2, c3, c4]
theorem nearV_form (M : Nat) (E : Int) (hM : M ≤ 9007199254740992) (hE : -1074 ≤ E) : ∃ inf M' E', (∀ g, nearV M E g = numV g inf M' E') ∧ nb inf M' E' = rb M E ∧ M' < 9007199254740992 ∧ -1074 ≤ E' ∧ E' ≤ 971 := by
  unfold nearV
  by_cases h : 971 < rE M E
  · refine ⟨true, 0, 0, fun g => by rw [if_pos h], ?_, by omega, by omega, by omega⟩
    unfold nb rb
    rw [if_pos h]
    rfl
  · refine ⟨false, rM M, rE M E, fun g => by rw [if_neg h], ?_, ?_, ?_, by omega⟩
    · unfold nb rb
      rw [if_neg h]
      rfl
    · unfold rM; split <;> omega
    · unfold rE; split <;> omega
/-- The two boxes that the reference's Nearest begins with. -/
theorem two_boxes (w : World) : ∃ w0, (w.alloc (Obj.cells #[.int .i64 53, .int .i64 (-1074), .int .i64 971] 54)).alloc (Obj.cells #[.bool false, .bool false, .bool false, .int .u64 0, .int .i64 0] 51) = w0 ∧ Keep w w0 ∧ w0.heap[w.heap.size]? = some (Obj.cells #[.int .i64 53, .int .i64 (-1074), .int .i64 971] 54 (0, 0)) ∧ w0.heap[w.heap.size + 1]? = some (Obj.cells #[.bool false, .bool false, .bool false, .int .u64 0, .int .i64 0] 51 (0, 0)) := by
  refine ⟨_, rfl, ((Keep.refl w).alloc _).alloc _, ?_, ?_⟩
  · have hs : w.heap.size < (w.alloc (Obj.cells #[.int .i64 53, .int .i64 (-1074), .int .i64 971] 54)).heap.size := by simp
    exact (((Keep.refl (w.alloc (Obj.cells #[.int .i64 53, .int .i64 (-1074), .int .i64 971] 54))).alloc _).block _ hs).trans (heap_alloc_new w _)
  · have hs : (w.alloc (Obj.cells #[.int .i64 53, .int .i64 (-1074), .int .i64 971] 54)).heap.size = w.heap.size + 1 := by simp
    rw [← hs]
    exact heap_alloc_new _ _
theorem nl_zero_val {l : List Nat} : nl l = 0 ↔ val l = 0 := by
  constructor
  · intro h
    rw [← val_take_nl l, h]; rfl
  · intro h
    rcases Nat.eq_zero_or_pos (nl l) with g | g
    · exact g
    · have := val_ge_len l (by omega)
      have := Nat.two_pow_pos (lenB l - 1)
      omega
set_option maxRecDepth 100000 in
set_option maxHeartbeats 1000000 in
theorem rN_zero (ng : Bool) (a b : Option Addr) (ca cb : Nat) (la lb : List Nat) (w : World) (hca : la.length ≤ ca) (hcb : lb.length ≤ cb) (hla : la.length ≤ 35184372087808) (hlb : lb.length ≤ 35184372087808) (hra : Rd w a la) (hrb : Rd w b lb) (hz : val lb = 0 ∨ val la = 0) :
    Calls Tryz.prog 28 #[.bool ng, .slice a la.length ca, .slice b lb.length cb, wideV] w fun e w' => e = .returned (.tuple #[numV false false 0 0, .bool (decide (val lb ≠ 0))]) ∧ Keep w w' := by
  obtain ⟨w0, hw0, k0, tb, tr⟩ := two_boxes w
  have n1 := norm_any a ca la w0 hca (by omega) (hra.keep k0)
  have n2 := norm_any b cb lb w0 hcb (by omega) (hrb.keep k0)
  have a0 := cell_of_row _ _ 0 _ 51 (0, 0) tr
  have a1 := cell_of_row _ _ 1 _ 51 (0, 0) tr
  have a2 := cell_of_row _ _ 2 _ 51 (0, 0) tr
  have a3 := cell_of_row _ _ 3 _ 51 (0, 0) tr
  have a4 := cell_of_row _ _ 4 _ 51 (0, 0) tr
  simp only [List.getElem?_toArray, List.getElem?_cons_zero, List.getElem?_cons_succ] at a0 a1 a2 a3 a4
  have b0 := frozen_of_row _ _ 0 _ 51 tr
  have b1 := frozen_of_row _ _ 1 _ 51 tr
  have b2 := frozen_of_row _ _ 2 _ 51 tr
  have b3 := frozen_of_row _ _ 3 _ 51 tr
  have b4 := frozen_of_row _ _ 4 _ 51 tr
  have hgl : w.heap.size ≤ w.heap.size + 1 := Nat.le_succ _
  have hkf : ∀ x0 x1 x2 x3 x4 : Value, Keep w (((((w0.setCell ⟨w.heap.size + 1, 0, none⟩ x0).setCell ⟨w.heap.size + 1, 1, none⟩ x1).setCell ⟨w.heap.size + 1, 2, none⟩ x2).setCell ⟨w.heap.size + 1, 3, none⟩ x3).setCell ⟨w.heap.size + 1, 4, none⟩ x4) := fun x0 x1 x2 x3 x4 =>
    ((((k0.setCell (p := ⟨w.heap.size + 1, 0, none⟩) hgl x0).setCell (p := ⟨w.heap.size + 1, 1, none⟩) hgl x1).setCell (p := ⟨w.heap.size + 1, 2, none⟩) hgl x2).setCell (p := ⟨w.heap.size + 1, 3, none⟩) hgl x3).setCell (p := ⟨w.heap.size + 1, 4, none⟩) hgl x4
  replace hkf : Hid _ := hkf
  unfold wideV numV
  by_cases h0 : val lb = 0
  · have e0 := nl_zero_val.2 h0
    have HD : Hid (decide (val lb ≠ 0) = false) := by show _ = _; simp [h0]
    rw [e0] at n2
    clear hz h0 e0
    go_enter Tryz.func28, Tryz.ntmps28
    go_wp2_with fail
    refine n1.mono ?_
    rintro e wx ⟨rfl, rfl⟩
    go_wp2_with fail
    refine n2.mono ?_
    rintro e wx ⟨rfl, rfl⟩
    go_wp2_with fail
    refine bodyPost_ret (results_box5 rfl _ _ (w.heap.size + 1) _ _ _ _ _ rfl (heap5 _ (w.heap.size + 1) _ _ _ _ _ tr)) rfl ?_
    rw [HD.out]
    exact ⟨rfl, hkf.out _ _ _ _ _⟩
  · have hz' : val la = 0 := by omega
    have e1 := nl_zero_val.2 hz'
    have e2 : nl lb ≠ 0 := fun h => h0 (nl_zero_val.1 h)
    have e3 : ((nl lb : Int) == 0) = false := by rw [beq_eq_false_iff_ne]; omega
    have HD : Hid (decide (val lb ≠ 0) = true) := by show _ = _; simp [h0]
    rw [e1] at n1
    clear hz h0 e1 hz'
    go_enter Tryz.func28, Tryz.ntmps28
    go_wp2_with fail
    refine n1.mono ?_
    rintro e wx ⟨rfl, rfl⟩
    go_wp2_with fail
    refine n2.mono ?_
    rintro e wx ⟨rfl, rfl⟩
    go_wp2_with fail
    refine bodyPost_ret (results_box5 rfl _ _ (w.heap.size + 1) _ _ _ _ _ rfl (heap5 _ (w.heap.size + 1) _ _ _ _ _ tr)) rfl ?_
    rw [HD.out]
    exact ⟨rfl, hkf.out _ _ _ _ _⟩
end Go.Proofs.YtgjhbolnnnibkaaGreatDoor.Li
set_option linter.unusedVariables false
set_option linter.unusedSimpArgs false
namespace Go.Proofs.YtgjhbolnnnibkaaGreatDoor.Li
open Go.RowKit Lb Nr
set_option maxRecDepth 100000 in
set_option maxHeartbeats 1000000 in
theorem rN_some (ng : Bool) (a b : Option Addr) (ca cb : Nat) (la lb : List Nat) (w : World) (hca : la.length ≤ ca) (hcb : lb.length ≤ cb) (hla : la.length ≤ 35184372087808) (hlb : lb.length ≤ 35184372087808) (hra : Rd w a la) (hrb : Rd w b lb) (hma : Lim la) (hmb : Lim lb) (hz : 0 < val la) (hz2 : 0 < val lb) :
    Calls Tryz.prog 28 #[.bool ng, .slice a la.length ca, .slice b lb.length cb, wideV] w fun e w' => ∃ E, IsE (val la) (val lb) E ∧ e = .returned (.tuple #[nearV (rup (sA (val la) E) (sB (val lb) E)) E ng, .bool true]) ∧ Keep w w' := by
  obtain ⟨w0, hw0, k0, tb, tr⟩ := two_boxes w
  have n1 := norm_any a ca la w0 hca (by omega) (hra.keep k0)
  have n2 := norm_any b cb lb w0 hcb (by omega) (hrb.keep k0)
  have e1 : nl la ≠ 0 := fun h => by have := nl_zero_val.1 h; omega
  have e2 : nl lb ≠ 0 := fun h => by have := nl_zero_val.1 h; omega
  have e3 : ((nl la : Int) == 0) = false := by rw [beq_eq_false_iff_ne]; omega
  have e4 : ((nl lb : Int) == 0) = false := by rw [beq_eq_false_iff_ne]; omega
  have l1 : (la.take (nl la)).length = nl la := by rw [List.length_take]; have := nl_le la; omega
  have l2 : (lb.take (nl lb)).length = nl lb := by rw [List.length_take]; have := nl_le lb; omega
  have g1 := nl_le la
  have g2 := nl_le lb
  have N1 : Nv w0 (.slice a (nl la) ca) (val la) := ⟨a, ca, la.take (nl la), by rw [l1], by omega, (hra.keep k0).take _, Lim_take hma _, Nrm_take _, val_take_nl _⟩
  have N2 : Nv w0 (.slice b (nl lb) cb) (val lb) := ⟨b, cb, lb.take (nl lb), by rw [l2], by omega, (hrb.keep k0).take _, Lim_take hmb _, Nrm_take _, val_take_nl _⟩
  obtain ⟨k, hk⟩ : ∃ k : Nat, k = 35184372087808 := ⟨_, rfl⟩
  rw [← hk] at hla hlb
  have hR := rnearest_any _ _ (val la) (val lb) k w0 N1 N2 (by omega) (Nat.lt_of_lt_of_le (val_lt hma) (Nat.pow_le_pow_right (by omega) hla)) (Nat.lt_of_lt_of_le (val_lt hmb) (Nat.pow_le_pow_right (by omega) hlb)) hz hz2
  have HSM : Hid (∀ E, IsE (val la) (val lb) E → rup (sA (val la) E) (sB (val lb) E) ≤ 9007199254740992) := fun E hE => (small_E hz2 hE).1
  have c0 := cell_of_row _ _ 0 _ 54 (0, 0) tb
  have c1 := cell_of_row _ _ 1 _ 54 (0, 0) tb
  have c2 := cell_of_row _ _ 2 _ 54 (0, 0) tb
  simp only [List.getElem?_toArray, List.getElem?_cons_zero, List.getElem?_cons_succ] at c0 c1 c2
  unfold wideV at *
  generalize nl la = na at *
  generalize nl lb = nb' at *
  generalize val la = N at *
  generalize val lb = D at *
  clear hra hrb hma hmb N1 N2 l1 l2 g1 g2 hla hlb hca hcb
  go_enter Tryz.func28, Tryz.ntmps28
  go_wp2_with fail
  refine n1.mono ?_
  rintro e wx ⟨rfl, rfl⟩
  go_wp2_with fail
  refine n2.mono ?_
  rintro e wx ⟨rfl, rfl⟩
  go_wp2_with fail
  refine hR.mono ?_
  rintro e w1 ⟨E, hE, rfl, k1⟩
  have hsm := HSM.out E hE
  obtain ⟨inf, M', E', hform, hnb, hM', hE1, hE2⟩ := nearV_form (rup (sA N E) (sB D E)) E hsm hE.1
  rw [hform]
  unfold numV
  have HX : Hid (IsE N D E) := hE
  have HFm : Hid (nearV (rup (sA N E) (sB D E)) E ng = numV ng inf M' E') := hform ng
  have tr1 := (k1.block _ (Array.getElem?_eq_some_iff.1 tr).1).trans tr
  have a0 := cell_of_row _ _ 0 _ 51 (0, 0) tr1
  have a1 := cell_of_row _ _ 1 _ 51 (0, 0) tr1
  have a2 := cell_of_row _ _ 2 _ 51 (0, 0) tr1
  have a3 := cell_of_row _ _ 3 _ 51 (0, 0) tr1
  have a4 := cell_of_row _ _ 4 _ 51 (0, 0) tr1
  simp only [List.getElem?_toArray, List.getElem?_cons_zero, List.getElem?_cons_succ] at a0 a1 a2 a3 a4
  have b0 := frozen_of_row _ _ 0 _ 51 tr1
  have b1 := frozen_of_row _ _ 1 _ 51 tr1
  have b2 := frozen_of_row _ _ 2 _ 51 tr1
  have b3 := frozen_of_row _ _ 3 _ 51 tr1
  have b4 := frozen_of_row _ _ 4 _ 51 tr1
  have hlt1 : w.heap.size + 1 < w1.heap.size := (Array.getElem?_eq_some_iff.1 tr1).1
  clear hE hnb hM' hE1 hE2 hform hsm n1 n2 hR HSM c0 c1 c2 tb
  go_wp2_with fail
  have hh := heap5 w1 (w.heap.size + 1) (.bool ng) (.bool inf) (.bool false) (.int .u64 (M' : Nat)) (.int .i64 E') tr1
  have hh2 := fun o => (((Keep.refl (((((w1.setCell ⟨w.heap.size + 1, 0, none⟩ (.bool ng)).setCell ⟨w.heap.size + 1, 1, none⟩ (.bool inf)).setCell ⟨w.heap.size + 1, 2, none⟩ (.bool false)).setCell ⟨w.heap.size + 1, 3, none⟩ (.int .u64 (M' : Nat))).setCell ⟨w.heap.size + 1, 4, none⟩ (.int .i64 E'))).alloc o).block _ (Array.getElem?_eq_some_iff.1 hh).1).trans hh
  have hgl : w.heap.size ≤ w.heap.size + 1 := Nat.le_succ _
  have kf := ((((((k0.trans k1).setCell (p := ⟨w.heap.size + 1, 0, none⟩) hgl (.bool ng)).setCell (p := ⟨w.heap.size + 1, 1, none⟩) hgl (.bool inf)).setCell (p := ⟨w.heap.size + 1, 2, none⟩) hgl (.bool false)).setCell (p := ⟨w.heap.size + 1, 3, none⟩) hgl (.int .u64 (M' : Nat))).setCell (p := ⟨w.heap.size + 1, 4, none⟩) hgl (.int .i64 E'))
  refine bodyPost_ret (results_box5 rfl _ _ (w.heap.size + 1) _ _ _ _ _ rfl (hh2 _)) rfl ?_
  refine ⟨E, HX.out, ?_, kf.alloc _⟩
  rw [HFm.out]
  rfl
end Go.Proofs.YtgjhbolnnnibkaaGreatDoor.Li
