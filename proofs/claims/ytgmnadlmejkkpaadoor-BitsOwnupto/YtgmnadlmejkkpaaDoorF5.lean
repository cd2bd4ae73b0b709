import Derived.Test.YtgmnadlmejkkpaaDoorF3
import Derived.Test.YtgmnadlmejkkpaaDoorF4
import Derived.LaidEqlPtr
set_option linter.unusedVariables false
set_option linter.unusedSimpArgs false
namespace Go.Proofs.YtgmnadlmejkkpaaDoor
open Go.RowKit
theorem rDo_no (ca cb : Nat) (a b : Option Addr) (l m : List Nat) (how : Int) (w : World) (h : l.length ≠ m.length) :
    Calls Tryd.prog 25 #[.slice a l.length ca, .slice b m.length cb, .int .i64 how] w fun e w' => e = .returned (.tuple #[.slice none 0 0, .int .i64 6]) ∧ w' = w := by
  have hne : ((l.length : Int) == (m.length : Int)) = false := by rw [beq_eq_false_iff_ne]; omega
  have hne2 : ((l.length : Int) != (m.length : Int)) = true := by rw [bne_iff_ne]; omega
  go_enter Tryd.func25, Tryd.ntmps25
  go_wp2_with fail
  go_ret2
  exact ⟨rfl, rfl⟩
theorem lstA_no {w : World} {l m : List Nat} (f : Nat → Nat → Nat) (h : l.length ≠ m.length) : LstA w w (.returned (.tuple #[.slice none 0 0, .int .i64 6])) (ansE l m) (ansL f l m) := by
  unfold ansE ansL
  rw [if_neg h, if_neg h]
  exact ⟨none, 0, rfl, Nat.le_refl _, Rd.nil _ _, Keep.refl _⟩
theorem lstA_ok {w w' : World} {l m : List Nat} {v : Value} (f : Nat → Nat → Nat) (h : l.length = m.length) (ho : Own w.heap.size w' v (zw f l m)) (k : Keep w w') : LstA w w' (.returned (.tuple #[v, .int .i64 0])) (ansE l m) (ansL f l m) := by
  unfold ansE ansL
  rw [if_pos h, if_pos h]
  exact ho.lstA k 0
theorem rDo1 (ca cb : Nat) (a b : Option Addr) (l m : List Nat) (w : World) (hl : l.length ≤ 17592186043904) (ha : Rd w a l) (hb : Rd w b m) (hwl : W64 l) (hwm : W64 m) :
    Calls Tryd.prog 25 #[.slice a l.length ca, .slice b m.length cb, .int .i64 1] w fun e w' => LstA w w' e (ansE l m) (ansL (fun x y => x &&& y) l m) := by
  by_cases h : l.length = m.length
  · have := rDo_and ca cb a b l m w hl h ha hb hwl hwm
    rw [← h]
    refine this.mono ?_
    rintro e w' ⟨v, rfl, h1, h2⟩
    exact lstA_ok _ h h1 h2
  · refine (rDo_no ca cb a b l m 1 w h).mono ?_
    rintro e w' ⟨rfl, rfl⟩
    exact lstA_no _ h
theorem rDo2 (ca cb : Nat) (a b : Option Addr) (l m : List Nat) (w : World) (hl : l.length ≤ 17592186043904) (ha : Rd w a l) (hb : Rd w b m) (hwl : W64 l) (hwm : W64 m) :
    Calls Tryd.prog 25 #[.slice a l.length ca, .slice b m.length cb, .int .i64 2] w fun e w' => LstA w w' e (ansE l m) (ansL (fun x y => x ||| y) l m) := by
  by_cases h : l.length = m.length
  · have := rDo_or ca cb a b l m w hl h ha hb hwl hwm
    rw [← h]
    refine this.mono ?_
    rintro e w' ⟨v, rfl, h1, h2⟩
    exact lstA_ok _ h h1 h2
  · refine (rDo_no ca cb a b l m 2 w h).mono ?_
    rintro e w' ⟨rfl, rfl⟩
    exact lstA_no _ h
theorem rDo3 (ca cb : Nat) (a b : Option Addr) (l m : List Nat) (w : World) (hl : l.length ≤ 17592186043904) (ha : Rd w a l) (hb : Rd w b m) (hwl : W64 l) (hwm : W64 m) :
    Calls Tryd.prog 25 #[.slice a l.length ca, .slice b m.length cb, .int .i64 3] w fun e w' => LstA w w' e (ansE l m) (ansL (fun x y => x ^^^ y) l m) := by
  by_cases h : l.length = m.length
  · have := rDo_xor ca cb a b l m w hl h ha hb hwl hwm
    rw [← h]
    refine this.mono ?_
    rintro e w' ⟨v, rfl, h1, h2⟩
    exact lstA_ok _ h h1 h2
  · refine (rDo_no ca cb a b l m 3 w h).mono ?_
    rintro e w' ⟨rfl, rfl⟩
    exact lstA_no _ h
/-- A slice over a block of its own: where it lies. -/
def OwnAt (B : Nat) (w : World) (v : Value) (l : List Nat) (g : Nat) (r : List Nat) : Prop := v = .slice (some ⟨g, 0, none⟩) l.length r.length ∧ B ≤ g ∧ Row w g r ∧ l.length ≤ r.length ∧ r.take l.length = l
theorem i59j : ∃ j, Tryd.prog.info? 59 = some j ∧ j.size ≠ 0 := by
  obtain ⟨i, hi, -, h, -⟩ := info_parts i59
  exact ⟨i, hi, by rw [h]; decide⟩
set_option maxRecDepth 100000 in
theorem begins_no (ga ca gb cb n : Nat) (ra rb : Array Value) (w : World) (hra : RowC w ga ra) (hrb : RowC w gb rb) (hne : gb ≠ ga) (hn : n ≤ 17592186044416) :
    Calls Tryd.prog 58 #[.slice (some ⟨ga, 0, none⟩) n ca, .slice (some ⟨gb, 0, none⟩) n cb] w fun e w' => e = .returned (.bool false) ∧ Keep w w' ∧ w'.heap = w.heap := by
  obtain ⟨j59, hj1, hj2⟩ := i59j
  go_enter Tryd.func58, Tryd.ntmps58
  go_wp2_with fail
  go_loopw [5] (fun i wr => ∃ k : Nat, 1 ≤ k ∧ (k ≤ n ∨ k = 1) ∧ i = .int .i64 k ∧ Keep w wr ∧ wr.heap = w.heap) (fun i _ => n - (intOf i).toNat)
  case atStart => exact ⟨1, by omega, by omega, rfl, Keep.refl _, rfl⟩
  case round =>
    obtain ⟨k, h1, hkk, rfl, hkp, hh⟩ := hrel
    by_cases hkl : k < n
    · have h0 : 0 < n := by omega
      have heq := run_eql_ptr_other (P := Tryd.prog) (tp := 75) (te := 59) wr.drew (a := ⟨gb, k, none⟩) (b := ⟨ga, 0, none⟩) Tryd.underlying75 hj1 hj2 (by simp [hne]) (show wr.heap[gb]? = _ by rw [hh]; exact hrb) (show wr.heap[ga]? = _ by rw [hh]; exact hra)
      go_wp2_with fail
      go_region_with fail
      all_goals
        go_simp
        go_wp2_with fail
        go_roundw
        case rel => exact ⟨k + 1, by omega, by omega, by go_num, hkp.drew, hh⟩
        case measure => simp [intOf]; omega
    · go_wp2_with fail
      go_ret
      exact ⟨rfl, hkp, hh⟩
end Go.Proofs.YtgmnadlmejkkpaaDoor
