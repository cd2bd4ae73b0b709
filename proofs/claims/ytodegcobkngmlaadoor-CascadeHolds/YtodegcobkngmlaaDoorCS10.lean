import Derived.Test.YtodegcobkngmlaaDoorCS8
import Derived.Test.YtodegcobkngmlaaDoorYRM
import Derived.Test.YtodegcobkngmlaaDoorYW4
set_option linter.unusedVariables false
set_option linter.unusedSimpArgs false
namespace Go.Proofs.YtodegcobkngmlaaDoor
open Go.RowKit Go.Shelf
set_option maxHeartbeats 1000000 in
/-- What lies behind the trees, one by one: an iterator with two cells of its own, the ensemble's and the vector's. -/
theorem behind_in (n : Nat) (E : Array Value) (ax : Option Addr) (m cx : Nat) (w : World) :
    CallsIn Fence.wide n Tryd.prog 16 #[.agg E, .slice ax m cx] w fun e w' => e = .returned (.func (.func 27) #[] #[.pointer (some ⟨w.heap.size, 0, none⟩), .pointer (some ⟨w.heap.size + 1, 0, none⟩)]) ∧ w' = (w.alloc (.cells E 26)).alloc (.cells #[.slice ax m cx] 27) := by
  refine callsIn_of_wp Tryd.func16 rfl trivial ?_ rfl
  simp only [Tryd.ntmps16, List.size_toArray, List.length_cons, List.length_nil, Nat.reduceAdd, Nat.reduceSub, Array.replicate_succ, Array.replicate_zero, List.push_toArray, List.append_toArray, List.nil_append, List.cons_append]
  gi_wp2
  go_ret
  exact ⟨rfl, rfl⟩
end Go.Proofs.YtodegcobkngmlaaDoor
set_option linter.unusedVariables false
set_option linter.unusedSimpArgs false
namespace Go.Proofs.YtodegcobkngmlaaDoor
open Go.RowKit Go.Shelf
theorem boS_zero (lo : Bool) (v : List Nd → Int) (o : Int) : ∀ ts, boS lo v o 0 ts = boS lo v0 o 0 ts
  | [] => rfl
  | t :: ts => by rw [boS, boS, boS_zero lo v o ts]
/-- The spans when the first k trees have been asked. -/
def beL (base : List Int) (ts : List (Int × List Nd)) (v : List Nd → Int) (k : Nat) : List (Int × Int) := (List.range base.length).map fun o => (base.getD o 0 + boS true v (o : Int) k ts, base.getD o 0 + boS false v (o : Int) k ts)
theorem beL_len (base : List Int) (ts : List (Int × List Nd)) (v : List Nd → Int) (k : Nat) : (beL base ts v k).length = base.length := by simp [beL]
theorem beL_at (base : List Int) (ts : List (Int × List Nd)) (v : List Nd → Int) (k o : Nat) (h : o < base.length) : (beL base ts v k).getD o (0, 0) = (base.getD o 0 + boS true v (o : Int) k ts, base.getD o 0 + boS false v (o : Int) k ts) := by simp [beL, List.getD, h]
theorem beL_zero (base : List Int) (ts : List (Int × List Nd)) (v : List Nd → Int) : ahL base ts ts.length = beL base ts v 0 := by
  unfold ahL beL
  rw [List.take_length]
  apply List.map_congr_left
  intro o _
  rw [boS_zero true v, boS_zero false v]
theorem beL_next (base : List Int) (ts : List (Int × List Nd)) (v : List Nd → Int) (k q : Nat) (hk : k < ts.length) (hq : (ts.getD k (0, [])).1 = (q : Int)) (hl : q < base.length) :
    (beL base ts v k).set q (((beL base ts v k).getD q (0, 0)).1 - (sp (ts.getD k (0, [])).2).1 + v (ts.getD k (0, [])).2, ((beL base ts v k).getD q (0, 0)).2 - (sp (ts.getD k (0, [])).2).2 + v (ts.getD k (0, [])).2) = beL base ts v (k + 1) := by
  apply List.ext_getElem?
  intro o
  by_cases ho : o < base.length
  · rw [beL_at base ts v k q hl]
    have e : (beL base ts v (k + 1))[o]? = some ((beL base ts v (k + 1)).getD o (0, 0)) := by
      have : o < (beL base ts v (k + 1)).length := by rw [beL_len]; exact ho
      simp [List.getD, this]
    have e' : (beL base ts v k)[o]? = some ((beL base ts v k).getD o (0, 0)) := by
      have : o < (beL base ts v k).length := by rw [beL_len]; exact ho
      simp [List.getD, this]
    rw [e, beL_at base ts v (k + 1) o ho, boS_step true v _ ts k hk, boS_step false v _ ts k hk, hq]
    by_cases hoq : o = q
    · subst hoq
      rw [List.getElem?_set_self (by rw [beL_len]; exact ho), if_pos rfl, if_pos rfl]
      simp only [if_true, Bool.false_eq_true, if_false]
      congr 2 <;> omega
    · rw [List.getElem?_set_ne (fun h => hoq h.symm), e', beL_at base ts v k o ho, if_neg (by omega), if_neg (by omega)]
      simp
  · rw [List.getElem?_eq_none (by rw [List.length_set, beL_len]; omega), List.getElem?_eq_none (by rw [beL_len]; omega)]
/-- No sum on the way wraps. -/
theorem beL_fit {base : List Int} {ts : List (Int × List Nd)} {v : List Nd → Int} (hv : ∀ t ∈ ts, (v t.2).natAbs ≤ lg t.2) (k o : Nat) (h : o < base.length) (hr : rm base ts o < 4611686018427387904) : ((beL base ts v k).getD o (0, 0)).1.natAbs < 4611686018427387904 ∧ ((beL base ts v k).getD o (0, 0)).2.natAbs < 4611686018427387904 := by
  rw [beL_at base ts v k o h]
  rw [rm_sum] at hr
  have h1 := boS_abs true v (o : Int) ts k hv
  have h2 := boS_abs false v (o : Int) ts k hv
  simp only
  omega
end Go.Proofs.YtodegcobkngmlaaDoor
