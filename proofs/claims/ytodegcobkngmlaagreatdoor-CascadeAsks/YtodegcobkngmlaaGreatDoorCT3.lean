import Derived.Test.YtodegcobkngmlaaGreatDoorCS3
import Derived.Test.YtodegcobkngmlaaGreatDoorCT2
import Derived.Test.YtodegcobkngmlaaGreatDoorCS13
import Derived.Test.YtodegcobkngmlaaGreatDoorZR6
import Derived.StillTailTactics
set_option linter.unusedVariables false
set_option linter.unusedSimpArgs false
namespace Go.Proofs.YtodegcobkngmlaaGreatDoor
open Go.RowKit Go.Shelf
theorem boS_snocN (lo : Bool) (v : List Nd → Int) (o : Int) (t : Int × List Nd) : ∀ (l : List (Int × List Nd)) (n : Nat), boS lo v o n (l ++ [t]) = boS lo v o n l + (if t.1 = o then (if l.length < n then v t.2 else (if lo = true then (sp t.2).1 else (sp t.2).2)) else 0)
  | [], 0 => by simp [boS]
  | [], n + 1 => by simp [boS]
  | x :: l, 0 => by
    rw [List.cons_append, boS, boS_snocN lo v o t l 0, boS]
    simp only [Nat.not_lt_zero, if_false]
    omega
  | x :: l, n + 1 => by
    rw [List.cons_append, boS, boS_snocN lo v o t l n, boS]
    simp only [List.length_cons, Nat.add_lt_add_iff_right]
    omega
/-- The spans, when the first n trees say what they say, of the first j trees. -/
def rbL (base : List Int) (ts : List (Int × List Nd)) (v : List Nd → Int) (n j : Nat) : List (Int × Int) := (List.range base.length).map fun o => (base.getD o 0 + boS true v (o : Int) n (ts.take j), base.getD o 0 + boS false v (o : Int) n (ts.take j))
theorem rbL_len (base : List Int) (ts : List (Int × List Nd)) (v : List Nd → Int) (n j : Nat) : (rbL base ts v n j).length = base.length := by simp [rbL]
theorem rbL_at (base : List Int) (ts : List (Int × List Nd)) (v : List Nd → Int) (n j o : Nat) (h : o < base.length) : (rbL base ts v n j).getD o (0, 0) = (base.getD o 0 + boS true v (o : Int) n (ts.take j), base.getD o 0 + boS false v (o : Int) n (ts.take j)) := by simp [rbL, List.getD, h]
theorem rbL_zero (base : List Int) (ts : List (Int × List Nd)) (v : List Nd → Int) (n : Nat) : rbL base ts v n 0 = base.map fun b => (b, b) := by
  apply List.ext_getElem?
  intro o
  simp only [rbL, List.take_zero]
  by_cases h : o < base.length
  · cases n <;> simp [h, boS, List.getD]
  · simp [h]
theorem rbL_all (base : List Int) (ts : List (Int × List Nd)) (v : List Nd → Int) (n : Nat) : rbL base ts v n ts.length = beL base ts v n := by
  unfold rbL beL
  rw [List.take_length]
theorem rbL_next (base : List Int) (ts : List (Int × List Nd)) (v : List Nd → Int) (n j q : Nat) (hj : j < ts.length) (hq : (ts.getD j (0, [])).1 = (q : Int)) (hl : q < base.length) (a b : Int)
    (ha : a = if j < n then v (ts.getD j (0, [])).2 else (sp (ts.getD j (0, [])).2).1) (hb : b = if j < n then v (ts.getD j (0, [])).2 else (sp (ts.getD j (0, [])).2).2) :
    (rbL base ts v n j).set q (((rbL base ts v n j).getD q (0, 0)).1 + a, ((rbL base ts v n j).getD q (0, 0)).2 + b) = rbL base ts v n (j + 1) := by
  have htk : ts.take (j + 1) = ts.take j ++ [ts.getD j (0, [])] := by
    rw [List.take_add_one]
    simp [List.getD, hj]
  have hjl : (ts.take j).length = j := by simp; omega
  apply List.ext_getElem?
  intro o
  by_cases ho : o < base.length
  · rw [rbL_at base ts v n j q hl]
    have e : (rbL base ts v n (j + 1))[o]? = some ((rbL base ts v n (j + 1)).getD o (0, 0)) := by
      have : o < (rbL base ts v n (j + 1)).length := by rw [rbL_len]; exact ho
      simp [List.getD, this]
    have e' : (rbL base ts v n j)[o]? = some ((rbL base ts v n j).getD o (0, 0)) := by
      have : o < (rbL base ts v n j).length := by rw [rbL_len]; exact ho
      simp [List.getD, this]
    rw [e, rbL_at base ts v n (j + 1) o ho, htk, boS_snocN, boS_snocN, hq, hjl]
    by_cases hoq : o = q
    · subst hoq
      rw [List.getElem?_set_self (by rw [rbL_len]; exact ho), if_pos rfl, if_pos rfl]
      simp only [if_true, Bool.false_eq_true, if_false]
      rw [ha, hb]
      congr 2 <;> omega
    · rw [List.getElem?_set_ne (fun h => hoq h.symm), e', rbL_at base ts v n j o ho, if_neg (by omega), if_neg (by omega)]
      simp
  · rw [List.getElem?_eq_none (by rw [List.length_set, rbL_len]; omega), List.getElem?_eq_none (by rw [rbL_len]; omega)]
theorem rbL_fit {base : List Int} {ts : List (Int × List Nd)} {v : List Nd → Int} (hv : ∀ t ∈ ts, (v t.2).natAbs ≤ lg t.2) (n j o : Nat) (h : o < base.length) (hr : rm base ts o < 4611686018427387904) : ((rbL base ts v n j).getD o (0, 0)).1.natAbs < 4611686018427387904 ∧ ((rbL base ts v n j).getD o (0, 0)).2.natAbs < 4611686018427387904 := by
  rw [rbL_at base ts v n j o h]
  rw [rm_sum] at hr
  have h1 := boS_abs true v (o : Int) (ts.take j) n (fun t ht => hv t (List.mem_of_mem_take ht))
  have h2 := boS_abs false v (o : Int) (ts.take j) n (fun t ht => hv t (List.mem_of_mem_take ht))
  have h3 := rsum_sub (o := (o : Int)) (List.take_sublist j ts)
  simp only
  omega
end Go.Proofs.YtodegcobkngmlaaGreatDoor
