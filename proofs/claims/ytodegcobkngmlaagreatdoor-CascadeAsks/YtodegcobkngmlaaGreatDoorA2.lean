import Derived.Test.YtodegcobkngmlaaGreatDoorProg
import Derived.Test.YtodegcobkngmlaaGreatDoorW3
import Derived.Test.YtodegcobkngmlaaGreatDoorYR2
import Derived.Test.YtodegcobkngmlaaGreatDoorYS5
import Derived.Test.YtodegcobkngmlaaGreatDoorYS6
import Derived.Test.YtodegcobkngmlaaGreatDoorYX4
import Derived.Test.YtodegcobkngmlaaGreatDoorYV1
import Derived.Test.YtodegcobkngmlaaGreatDoorYW4
import Derived.Test.YtodegcobkngmlaaGreatDoorYU4
import Derived.Test.YtodegcobkngmlaaGreatDoorYU1
import Derived.Test.YtodegcobkngmlaaGreatDoorYT6
import Derived.Test.YtodegcobkngmlaaGreatDoorYT5
import Derived.Test.YtodegcobkngmlaaGreatDoorMS36
import Derived.WalkKit
import Derived.WalkSpells
import Derived.WalkLawsBesides
import Derived.Deep.Draws
import Derived.Deep.QuietTactic
import Derived.BigQuiet
import Derived.Laws.Externs
import Derived.Laws.CopyOwn
import Derived.Shelf.Abstract
import Derived.Deep.RegionLaw
import Derived.BigRegion
import Derived.Deep.RegionHeld3
import Derived.RangeFuncBox
import Derived.RangeFuncLeaves
import Derived.RangeFuncCalls
import Derived.RangeFuncRecord
import Derived.Below
import Derived.OwnWalkIn
import Derived.TacticsInMore
import Derived.LoopNIn
import Derived.LoopIn
import Derived.Sort.LoopGhostIn
import Derived.Deep.RegionWith
import Derived.Stop.RegionWithIn
import Derived.Laws.MathBits
import Derived.Maps.OwnSet
import Derived.StringKeys
import Derived.RegionTactic
import Derived.Orders
import Derived.OrdersIn
import Derived.RegionIn
import Ieee.Arith
import Derived.Laws.StructEq
import Derived.Lib.BufferWrite
import Derived.Lib.UnsafeStr
set_option linter.unusedVariables false
set_option linter.unusedSimpArgs false
namespace Go.Proofs.YtodegcobkngmlaaGreatDoor
open Go.RowKit Go.Shelf
theorem lgF_max {L : List Nd} {B : Nat} : ∀ (f k m : Nat), m ≤ B → (∀ i, k ≤ i → i < k + f → (L.getD i nd0).kd = 1 → (L.getD i nd0).vl.natAbs ≤ B) → lgF L f k m ≤ B
  | 0, k, m, h, _ => h
  | f + 1, k, m, h, hi => by
    rw [lgF]
    refine lgF_max f (k + 1) _ ?_ (fun i h1 h2 => hi i (by omega) (by omega))
    split
    · rename_i q
      exact hi k (by omega) (by omega) (by have := q.1; unfold kdB at this; simpa using this)
    · exact h
theorem lg_max {L : List Nd} {B : Nat} (h : ∀ i, i < L.length → (L.getD i nd0).kd = 1 → (L.getD i nd0).vl.natAbs ≤ B) : lg L ≤ B :=
  lgF_max _ _ _ (by omega) (fun i _ h2 => h i (by omega))
theorem lg_ge {L : List Nd} {i : Nat} (hi : i < L.length) (h : (L.getD i nd0).kd = 1) : (L.getD i nd0).vl.natAbs ≤ lg L := lgF_ge _ _ _ _ (by omega) (by omega) h
theorem tnF_mk {L : List Nd} {F t : Int} : ∀ (f k : Nat), (∀ i, k ≤ i → i < k + f → (sel (ndS (L.getD i nd0) F (L.length : Int)) t (i : Int)).1 = 0) → (tnF L F t f k).1 = 0
  | 0, k, _ => rfl
  | f + 1, k, h => by
    rw [tnF, if_pos (h k (by omega) (by omega))]
    exact tnF_mk f (k + 1) fun i h1 h2 => h i (by omega) (by omega)
theorem sel_mk : ∀ (l : List (Int × Bool)) (t n : Int), (∀ x ∈ l, x.2 = true) → (sel l t n).1 = 0
  | [], t, n, _ => rfl
  | (r, b) :: l, t, n, h => by
    rw [sel, if_pos (h (r, b) (by simp))]
    exact sel_mk l t n fun x hx => h x (List.mem_cons_of_mem _ hx)
theorem win_mk {n lo hi : Int} (h1 : lo ≤ n) (h2 : n ≤ hi) : winB n lo hi = true := by unfold winB; simp [h1, h2]
/-- A right node breaks no rule. -/
theorem nd_mk {n : Nd} {F : Int} {M : Nat} (hr : rightB n M = true) (hf : (n.kd = 2 ∨ n.kd = 3) → 0 ≤ n.ft ∧ n.ft ≤ F - 1) (t i : Int) : (sel (ndS n F (M : Int)) t i).1 = 0 := by
  refine sel_mk _ _ _ ?_
  unfold rightB at hr
  by_cases k1 : n.kd = 1
  · rw [if_pos k1] at hr
    simp only [Bool.and_eq_true, decide_eq_true_eq, bareB] at hr
    obtain ⟨⟨⟨⟨r1, r2, r3⟩, r4⟩, r5⟩, r6⟩ := hr
    simp [ndS, q13, restB, q15, q16, q17, q18, q19, kdB, innB, vlB, csB, thB, ftB0, msB, lfB, rtB, k1, r1, r2, r3, r4, r5, r6]
  · rw [if_neg k1] at hr
    by_cases k2 : n.kd = 2
    · rw [if_pos k2] at hr
      have hf' := hf (.inl k2)
      simp only [Bool.and_eq_true, decide_eq_true_eq, spl] at hr
      obtain ⟨⟨⟨s1, s2, s3, s4, s5, s6⟩, r2⟩, r3⟩ := hr
      have w1 := win_mk hf'.1 hf'.2
      have w2 := win_mk s5.1 (show n.lf ≤ (M : Int) - 1 by omega)
      have w3 := win_mk s6.1 (show n.rt ≤ (M : Int) - 1 by omega)
      simp at r2 r3
      simp [ndS, q13, restB, q15, q16, q17, q18, q19, kdB, innB, vlB, csB, thB, ftB0, msB, lfB, rtB, k2, s1, s4, w1, w2, w3, r2, r3]
    · rw [if_neg k2] at hr
      by_cases k3 : n.kd = 3
      · rw [if_pos k3] at hr
        have hf' := hf (.inr k3)
        simp only [Bool.and_eq_true, decide_eq_true_eq, spl] at hr
        obtain ⟨⟨⟨s1, s2, s3, s4, s5, s6⟩, r2⟩, r3⟩ := hr
        have w1 := win_mk hf'.1 hf'.2
        have w2 := win_mk s5.1 (show n.lf ≤ (M : Int) - 1 by omega)
        have w3 := win_mk s6.1 (show n.rt ≤ (M : Int) - 1 by omega)
        simp [ndS, q13, restB, q15, q16, q17, q18, q19, kdB, innB, vlB, csB, thB, ftB0, msB, lfB, rtB, k3, s1, s4, w1, w2, w3, r2, r3]
      · rw [if_neg k3] at hr; cases hr
/-- A right tree breaks no rule. -/
theorem trB_mk {out N F : Int} {L : List Nd} (t : Int) (h1 : 0 ≤ out ∧ out ≤ N - 1) (h2 : 1 ≤ L.length ∧ L.length ≤ 8191) (h3 : shE L = 0) (h4 : ∀ i, i < L.length → ((L.getD i nd0).kd = 2 ∨ (L.getD i nd0).kd = 3) → 0 ≤ (L.getD i nd0).ft ∧ (L.getD i nd0).ft ≤ F - 1) : (trB out N F L t).1 = 0 := by
  unfold trB
  rw [if_pos (sel_mk _ _ _ (by
    intro x hx
    simp at hx
    rcases hx with rfl | rfl
    · exact win_mk h1.1 h1.2
    · exact win_mk (by omega) (by omega))), if_pos (tnF_mk _ _ fun i _ hi => nd_mk ((shE_rgt h3).2 i (by omega)) (h4 i (by omega)) _ _)]
  exact sel_mk _ _ _ (by intro x hx; simp at hx; rcases hx with rfl; simpa using h3)
/-- The same tree, wherever it stands; and numbered anew. -/
theorem trB_at {out N F : Int} {L : List Nd} {t : Int} (h : (trB out N F L t).1 = 0) (t' : Int) : (trB out N F L t').1 = 0 := by
  obtain ⟨h1, h2, h3, h4⟩ := trB_ok h
  exact trB_mk t' h1 h2 h3 h4
end Go.Proofs.YtodegcobkngmlaaGreatDoor
set_option linter.unusedVariables false
set_option linter.unusedSimpArgs false
namespace Go.Proofs.YtodegcobkngmlaaGreatDoor
open Go.RowKit Go.Shelf
/-- What a tree adds to an output's room. -/
def wo1 (o : Int) (t : Int × List Nd) : Nat := if t.1 = o then lg t.2 else 0
def rsum (o : Int) : List (Int × List Nd) → Nat
  | [] => 0
  | t :: l => wo1 o t + rsum o l
theorem rmF_sum {o : Int} {ts : List (Int × List Nd)} : ∀ (f k s : Nat), k + f = ts.length → rmF o ts f k s = s + rsum o (ts.drop k)
  | 0, k, s, h => by rw [rmF, List.drop_eq_nil_of_le (by omega), rsum]; omega
  | f + 1, k, s, h => by
    have hk : k < ts.length := by omega
    rw [rmF, rmF_sum f (k + 1) _ (by omega), List.drop_eq_getElem_cons hk, rsum, wo1, show ts.getD k (0, []) = ts[k] by simp [List.getD, hk]]
    split <;> omega
theorem rm_sum (base : List Int) (ts : List (Int × List Nd)) (o : Nat) : rm base ts o = (base.getD o 0).natAbs + rsum (o : Int) ts := by
  unfold rm
  rw [rmF_sum _ _ _ (by omega)]
  rfl
theorem rsum_append (o : Int) : ∀ l l', rsum o (l ++ l') = rsum o l + rsum o l'
  | [], l' => by simp [rsum]
  | t :: l, l' => by rw [List.cons_append, rsum, rsum, rsum_append o l l']; omega
theorem rsum_sub {o : Int} {l l' : List (Int × List Nd)} (h : l.Sublist l') : rsum o l ≤ rsum o l' := by
  induction h with
  | slnil => exact Nat.le_refl _
  | cons a h ih => rw [rsum]; omega
  | cons_cons a h ih => rw [rsum, rsum]; omega
theorem rsum_map {o : Int} {g : Int × List Nd → Int × List Nd} : ∀ l : List (Int × List Nd), (∀ t ∈ l, wo1 o (g t) ≤ wo1 o t) → rsum o (l.map g) ≤ rsum o l
  | [], _ => Nat.le_refl _
  | t :: l, h => by
    rw [List.map_cons, rsum, rsum]
    have := h t (by simp)
    have := rsum_map l fun x hx => h x (List.mem_cons_of_mem _ hx)
    omega
/-- Trees from one on, and then those ahead of it. -/
def rot (ts : List (Int × List Nd)) (r : Nat) : List (Int × List Nd) := ts.drop r ++ ts.take r
theorem rot_len (ts : List (Int × List Nd)) (r : Nat) (h : r ≤ ts.length) : (rot ts r).length = ts.length := by unfold rot; simp; omega
theorem rot_sum (o : Int) (ts : List (Int × List Nd)) (r : Nat) : rsum o (rot ts r) = rsum o ts := by
  unfold rot
  rw [rsum_append, Nat.add_comm, ← rsum_append, List.take_append_drop]
theorem rot_at (ts : List (Int × List Nd)) (r k : Nat) (hr : r < ts.length) (hk : k < ts.length) : (rot ts r).getD k (0, []) = ts.getD ((k + r) % ts.length) (0, []) := by
  unfold rot List.getD
  by_cases h : k < ts.length - r
  · rw [List.getElem?_append_left (by simp; omega), List.getElem?_drop, Nat.mod_eq_of_lt (by omega), Nat.add_comm]
  · rw [List.getElem?_append_right (by simp; omega), List.getElem?_take, if_pos (by simp; omega), List.length_drop, show (k + r) % ts.length = k - (ts.length - r) by
      rw [Nat.mod_eq_sub_mod (by omega), Nat.mod_eq_of_lt (by omega)]; omega]
/-- The trees that are taken, behind so many rounds. -/
def chT (ts : List (Int × List Nd)) (r : Nat) (out : List Bool) : Nat → List (Int × List Nd)
  | 0 => []
  | k + 1 => if out.getD ((k + r) % ts.length) false = true then chT ts r out k else chT ts r out k ++ [ts.getD ((k + r) % ts.length) (0, [])]
theorem chT_sub (ts : List (Int × List Nd)) (r : Nat) (out : List Bool) (hr : r < ts.length) : ∀ k, k ≤ ts.length → (chT ts r out k).Sublist ((rot ts r).take k)
  | 0, _ => by simp [chT]
  | k + 1, h => by
    have hl : k < (rot ts r).length := by rw [rot_len ts r (by omega)]; omega
    have hg : (rot ts r)[k] = ts.getD ((k + r) % ts.length) (0, []) := by rw [← rot_at ts r k hr (by omega)]; simp [List.getD, hl]
    rw [chT, List.take_succ_eq_append_getElem hl, hg]
    have ih := chT_sub ts r out hr k (by omega)
    split
    · exact ih.trans (List.sublist_append_left _ _)
    · exact ih.append (List.Sublist.refl _)
theorem chT_len (ts : List (Int × List Nd)) (r : Nat) (out : List Bool) : ∀ k, (chT ts r out k).length ≤ k
  | 0 => Nat.le_refl _
  | k + 1 => by
    have := chT_len ts r out k
    rw [chT]
    split
    · omega
    · simp; exact this
theorem chT_mem (ts : List (Int × List Nd)) (r : Nat) (out : List Bool) (hn : 0 < ts.length) : ∀ k, ∀ t ∈ chT ts r out k, ∃ i, i < ts.length ∧ t = ts.getD i (0, [])
  | 0, t, h => by simp [chT] at h
  | k + 1, t, h => by
    rw [chT] at h
    split at h
    · exact chT_mem ts r out hn k t h
    · rcases List.mem_append.1 h with h | h
      · exact chT_mem ts r out hn k t h
      · exact ⟨_, Nat.mod_lt _ hn, by simpa using h⟩
theorem tsF_mk {N F : Int} {ts : List (Int × List Nd)} : ∀ (f k : Nat), (∀ i, k ≤ i → i < k + f → (trB (ts.getD i (0, [])).1 N F (ts.getD i (0, [])).2 (i : Int)).1 = 0) → (tsF N F ts f k).1 = 0
  | 0, k, _ => rfl
  | f + 1, k, h => by
    rw [tsF, if_pos (h k (by omega) (by omega))]
    exact tsF_mk f (k + 1) fun i h1 h2 => h i (by omega) (by omega)
theorem ouF_mk {base : List Int} {ts : List (Int × List Nd)} : ∀ (f k : Nat), (∀ i, k ≤ i → i < k + f → rm base ts i < 4611686018427387904) → (ouF base ts f k).1 = 0
  | 0, k, _ => rfl
  | f + 1, k, h => by
    rw [ouF, if_pos (by unfold okS; exact decide_eq_true (h k (by omega) (by omega)))]
    exact ouF_mk f (k + 1) fun i h1 h2 => h i (by omega) (by omega)
/-- Other trees and other names. -/
theorem chB_other {nm : ByteArray} {fs fs' : List ByteArray} {N : Int} {base : List Int} {ts ts' : List (Int × List Nd)} (h : (chB nm fs N base ts).1 = 0) (hl : fs'.length = fs.length) (hf : (ftB fs').1 = 0) (hn : ts'.length ≤ 65536)
    (ht : ∀ t ∈ ts', ∃ i : Int, (trB t.1 N fs.length t.2 i).1 = 0) (hs : ∀ o, rsum o ts' ≤ rsum o ts) : (chB nm fs' N base ts').1 = 0 := by
  obtain ⟨-, h1, h2, h3, h4, h5, h6⟩ := chB_ok h
  have hh : (hdS nm fs.length).1 = 0 := by
    rw [chB_eq] at h
    split at h
    · rename_i q
      unfold or3 at q
      by_cases a : (hdS nm fs.length).1 = 0
      · exact a
      · rw [if_neg a] at q; exact absurd q a
    · rename_i q; exact absurd h q
  rw [chB_eq, hl, if_pos, if_pos]
  · refine ouF_mk _ _ fun i _ hi => ?_
    have := ouF_all _ _ h6 i (by omega) (by omega)
    rw [rm_sum] at this ⊢
    have := hs i
    omega
  · refine tsF_mk _ _ fun i _ hi => ?_
    have hi' : i < ts'.length := by omega
    obtain ⟨j, hj⟩ := ht (ts'.getD i (0, [])) (by simp [List.getD, hi'])
    exact trB_at hj _
  · unfold or3
    rw [if_pos hh, if_pos hf]
    unfold ctS
    refine sel_mk _ _ _ ?_
    intro x hx
    simp at hx
    rcases hx with rfl | rfl | rfl
    · exact win_mk h1.1 h1.2
    · simpa using h2
    · simp; omega
/-- In another order, some left out, with other names. -/
theorem chB_chosen {nm : ByteArray} {fs fs' : List ByteArray} {N : Int} {base : List Int} {ts : List (Int × List Nd)} (r : Nat) (out : List Bool) (h : (chB nm fs N base ts).1 = 0) (hl : fs'.length = fs.length) (hf : (ftB fs').1 = 0) (hr : 0 < ts.length → r < ts.length) : (chB nm fs' N base (chT ts r out ts.length)).1 = 0 := by
  obtain ⟨-, h1, h2, h3, h4, h5, h6⟩ := chB_ok h
  by_cases hn : 0 < ts.length
  · refine chB_other h hl hf (Nat.le_trans (chT_len _ _ _ _) h3) ?_ ?_
    · intro t ht
      obtain ⟨i, hi, rfl⟩ := chT_mem ts r out hn _ t ht
      exact ⟨_, h5 i hi⟩
    · intro o
      have := rsum_sub (o := o) (chT_sub ts r out (hr hn) ts.length (Nat.le_refl _))
      rw [List.take_of_length_le (by rw [rot_len ts r (by have := hr hn; omega)]; omega), rot_sum] at this
      exact this
  · have : ts = [] := List.eq_nil_of_length_eq_zero (by omega)
    subst this
    refine chB_other h hl hf (by simp [chT]) (fun t ht => by simp [chT] at ht) fun o => by simp [chT]
end Go.Proofs.YtodegcobkngmlaaGreatDoor
