import Derived.Test.YtinjikoocegooaaGreatDoorProg
import Derived.Test.YtinjikoocegooaaGreatDoorW3
import Derived.Test.YtinjikoocegooaaGreatDoorMS36
import Derived.WalkKit
import Derived.WalkSpells
import Derived.WalkLawsBesides
import Derived.Deep.Draws
import Derived.Deep.QuietTactic
import Derived.BigQuiet
import Derived.Laws.Externs
import Derived.Laws.CopyOwn
import Derived.Shelf.Abstract
import Derived.Deep.RegionLaw
import Derived.BigRegion
import Derived.Deep.RegionHeld3
import Derived.RangeFuncBox
import Derived.RangeFuncLeaves
import Derived.RangeFuncCalls
import Derived.RangeFuncRecord
import Derived.Below
import Derived.OwnWalkIn
import Derived.TacticsInMore
import Derived.LoopNIn
import Derived.LoopIn
import Derived.Sort.LoopGhostIn
import Derived.Deep.RegionWith
import Derived.Stop.RegionWithIn
import Derived.Laws.MathBits
import Derived.Maps.OwnSet
import Derived.StringKeys
import Derived.RegionTactic
import Derived.Orders
import Derived.OrdersIn
import Derived.RegionIn
import Ieee.Arith
import Derived.Laws.StructEq
import Derived.Lib.BufferWrite
import Derived.Lib.UnsafeStr
import Derived.Test.YtinjikoocegooaaGreatDoorMS15
import Derived.Laws.IdiomStrings
set_option linter.unusedVariables false
set_option linter.unusedSimpArgs false
namespace Go.Proofs.YtinjikoocegooaaGreatDoor
open Go.RowKit Go.Shelf
theorem lgF_max {L : List Nd} {B : Nat} : ∀ (f k m : Nat), m ≤ B → (∀ i, k ≤ i → i < k + f → (L.getD i nd0).kd = 1 → (L.getD i nd0).vl.natAbs ≤ B) → lgF L f k m ≤ B
  | 0, k, m, h, _ => h
  | f + 1, k, m, h, hi => by
    rw [lgF]
    refine lgF_max f (k + 1) _ ?_ (fun i h1 h2 => hi i (by omega) (by omega))
    split
    · rename_i q
      exact hi k (by omega) (by omega) (by have := q.1; unfold kdB at this; simpa using this)
    · exact h
theorem lg_max {L : List Nd} {B : Nat} (h : ∀ i, i < L.length → (L.getD i nd0).kd = 1 → (L.getD i nd0).vl.natAbs ≤ B) : lg L ≤ B :=
  lgF_max _ _ _ (by omega) (fun i _ h2 => h i (by omega))
theorem lg_ge {L : List Nd} {i : Nat} (hi : i < L.length) (h : (L.getD i nd0).kd = 1) : (L.getD i nd0).vl.natAbs ≤ lg L := lgF_ge _ _ _ _ (by omega) (by omega) h
theorem cno_at {L : List Nd} (h : shE L = 0) {j : Nat} (hj : j < (cnoL L).length) : ∃ i, i < L.length ∧ (cnoL L).getD j nd0 = rcN (anF L.length (ord (shp L) L.length)) (L.getD i nd0) := by
  have hj' : j < (ord (shp L) L.length).length := by simpa [cnoL] using hj
  refine ⟨(ord (shp L) L.length)[j], ord_lt (shE_rgt h).wi _ (List.getElem_mem _), ?_⟩
  simp [cnoL, List.getD, hj']
theorem cno_lg {L : List Nd} (h : shE L = 0) : lg (cnoL L) ≤ lg L := by
  refine lg_max fun j hj hk => ?_
  obtain ⟨i, hi, e⟩ := cno_at h hj
  rw [e] at hk ⊢
  exact lg_ge hi hk
theorem tnF_mk {L : List Nd} {F t : Int} : ∀ (f k : Nat), (∀ i, k ≤ i → i < k + f → (sel (ndS (L.getD i nd0) F (L.length : Int)) t (i : Int)).1 = 0) → (tnF L F t f k).1 = 0
  | 0, k, _ => rfl
  | f + 1, k, h => by
    rw [tnF, if_pos (h k (by omega) (by omega))]
    exact tnF_mk f (k + 1) fun i h1 h2 => h i (by omega) (by omega)
theorem sel_mk : ∀ (l : List (Int × Bool)) (t n : Int), (∀ x ∈ l, x.2 = true) → (sel l t n).1 = 0
  | [], t, n, _ => rfl
  | (r, b) :: l, t, n, h => by
    rw [sel, if_pos (h (r, b) (by simp))]
    exact sel_mk l t n fun x hx => h x (List.mem_cons_of_mem _ hx)
theorem win_mk {n lo hi : Int} (h1 : lo ≤ n) (h2 : n ≤ hi) : winB n lo hi = true := by unfold winB; simp [h1, h2]
/-- A right node breaks no rule. -/
theorem nd_mk {n : Nd} {F : Int} {M : Nat} (hr : rightB n M = true) (hf : (n.kd = 2 ∨ n.kd = 3) → 0 ≤ n.ft ∧ n.ft ≤ F - 1) (t i : Int) : (sel (ndS n F (M : Int)) t i).1 = 0 := by
  refine sel_mk _ _ _ ?_
  unfold rightB at hr
  by_cases k1 : n.kd = 1
  · rw [if_pos k1] at hr
    simp only [Bool.and_eq_true, decide_eq_true_eq, bareB] at hr
    obtain ⟨⟨⟨⟨r1, r2, r3⟩, r4⟩, r5⟩, r6⟩ := hr
    simp [ndS, q13, restB, q15, q16, q17, q18, q19, kdB, innB, vlB, csB, thB, ftB0, msB, lfB, rtB, k1, r1, r2, r3, r4, r5, r6]
  · rw [if_neg k1] at hr
    by_cases k2 : n.kd = 2
    · rw [if_pos k2] at hr
      have hf' := hf (.inl k2)
      simp only [Bool.and_eq_true, decide_eq_true_eq, spl] at hr
      obtain ⟨⟨⟨s1, s2, s3, s4, s5, s6⟩, r2⟩, r3⟩ := hr
      have w1 := win_mk hf'.1 hf'.2
      have w2 := win_mk s5.1 (show n.lf ≤ (M : Int) - 1 by omega)
      have w3 := win_mk s6.1 (show n.rt ≤ (M : Int) - 1 by omega)
      simp at r2 r3
      simp [ndS, q13, restB, q15, q16, q17, q18, q19, kdB, innB, vlB, csB, thB, ftB0, msB, lfB, rtB, k2, s1, s4, w1, w2, w3, r2, r3]
    · rw [if_neg k2] at hr
      by_cases k3 : n.kd = 3
      · rw [if_pos k3] at hr
        have hf' := hf (.inr k3)
        simp only [Bool.and_eq_true, decide_eq_true_eq, spl] at hr
        obtain ⟨⟨⟨s1, s2, s3, s4, s5, s6⟩, r2⟩, r3⟩ := hr
        have w1 := win_mk hf'.1 hf'.2
        have w2 := win_mk s5.1 (show n.lf ≤ (M : Int) - 1 by omega)
        have w3 := win_mk s6.1 (show n.rt ≤ (M : Int) - 1 by omega)
        simp [ndS, q13, restB, q15, q16, q17, q18, q19, kdB, innB, vlB, csB, thB, ftB0, msB, lfB, rtB, k3, s1, s4, w1, w2, w3, r2, r3]
      · rw [if_neg k3] at hr; cases hr
/-- A right tree breaks no rule. -/
theorem trB_mk {out N F : Int} {L : List Nd} (t : Int) (h1 : 0 ≤ out ∧ out ≤ N - 1) (h2 : 1 ≤ L.length ∧ L.length ≤ 8191) (h3 : shE L = 0) (h4 : ∀ i, i < L.length → ((L.getD i nd0).kd = 2 ∨ (L.getD i nd0).kd = 3) → 0 ≤ (L.getD i nd0).ft ∧ (L.getD i nd0).ft ≤ F - 1) : (trB out N F L t).1 = 0 := by
  unfold trB
  rw [if_pos (sel_mk _ _ _ (by
    intro x hx
    simp at hx
    rcases hx with rfl | rfl
    · exact win_mk h1.1 h1.2
    · exact win_mk (by omega) (by omega))), if_pos (tnF_mk _ _ fun i _ hi => nd_mk ((shE_rgt h3).2 i (by omega)) (h4 i (by omega)) _ _)]
  exact sel_mk _ _ _ (by intro x hx; simp at hx; rcases hx with rfl; simpa using h3)
/-- The same tree, wherever it stands; and numbered anew. -/
theorem trB_at {out N F : Int} {L : List Nd} {t : Int} (h : (trB out N F L t).1 = 0) (t' : Int) : (trB out N F L t').1 = 0 := by
  obtain ⟨h1, h2, h3, h4⟩ := trB_ok h
  exact trB_mk t' h1 h2 h3 h4
theorem trB_cno {out N F : Int} {L : List Nd} {t : Int} (h : (trB out N F L t).1 = 0) (t' : Int) : (trB (cnoO L out) N F (cnoN L) t').1 = 0 ∧ lg (cnoN L) ≤ lg L ∧ cnoO L out = out := by
  obtain ⟨h1, h2, h3, h4⟩ := trB_ok h
  have e : cnoN L = cnoL L := by unfold cnoN; rw [if_pos h3]
  have eo : cnoO L out = out := by unfold cnoO; rw [if_pos h3]
  have hl : (cnoL L).length = L.length := by unfold cnoL; rw [List.length_map]; exact ord_full h3
  rw [e, eo]
  refine ⟨trB_mk t' h1 (by omega) (cno_shE h3) ?_, cno_lg h3, rfl⟩
  intro j hj hk
  obtain ⟨i, hi, e⟩ := cno_at h3 hj
  rw [e] at hk ⊢
  exact h4 i hi hk
end Go.Proofs.YtinjikoocegooaaGreatDoor
set_option linter.unusedVariables false
set_option linter.unusedSimpArgs false
namespace Go.Proofs.YtinjikoocegooaaGreatDoor
open Go.RowKit Go.Shelf
/-- What a tree adds to an output's room. -/
def wo1 (o : Int) (t : Int × List Nd) : Nat := if t.1 = o then lg t.2 else 0
def rsum (o : Int) : List (Int × List Nd) → Nat
  | [] => 0
  | t :: l => wo1 o t + rsum o l
theorem rmF_sum {o : Int} {ts : List (Int × List Nd)} : ∀ (f k s : Nat), k + f = ts.length → rmF o ts f k s = s + rsum o (ts.drop k)
  | 0, k, s, h => by rw [rmF, List.drop_eq_nil_of_le (by omega), rsum]; omega
  | f + 1, k, s, h => by
    have hk : k < ts.length := by omega
    rw [rmF, rmF_sum f (k + 1) _ (by omega), List.drop_eq_getElem_cons hk, rsum, wo1, show ts.getD k (0, []) = ts[k] by simp [List.getD, hk]]
    split <;> omega
theorem rm_sum (base : List Int) (ts : List (Int × List Nd)) (o : Nat) : rm base ts o = (base.getD o 0).natAbs + rsum (o : Int) ts := by
  unfold rm
  rw [rmF_sum _ _ _ (by omega)]
  rfl
theorem rsum_append (o : Int) : ∀ l l', rsum o (l ++ l') = rsum o l + rsum o l'
  | [], l' => by simp [rsum]
  | t :: l, l' => by rw [List.cons_append, rsum, rsum, rsum_append o l l']; omega
theorem rsum_sub {o : Int} {l l' : List (Int × List Nd)} (h : l.Sublist l') : rsum o l ≤ rsum o l' := by
  induction h with
  | slnil => exact Nat.le_refl _
  | cons a h ih => rw [rsum]; omega
  | cons_cons a h ih => rw [rsum, rsum]; omega
theorem rsum_map {o : Int} {g : Int × List Nd → Int × List Nd} : ∀ l : List (Int × List Nd), (∀ t ∈ l, wo1 o (g t) ≤ wo1 o t) → rsum o (l.map g) ≤ rsum o l
  | [], _ => Nat.le_refl _
  | t :: l, h => by
    rw [List.map_cons, rsum, rsum]
    have := h t (by simp)
    have := rsum_map l fun x hx => h x (List.mem_cons_of_mem _ hx)
    omega
/-- Trees from one on, and then those ahead of it. -/
def rot (ts : List (Int × List Nd)) (r : Nat) : List (Int × List Nd) := ts.drop r ++ ts.take r
theorem rot_len (ts : List (Int × List Nd)) (r : Nat) (h : r ≤ ts.length) : (rot ts r).length = ts.length := by unfold rot; simp; omega
theorem rot_sum (o : Int) (ts : List (Int × List Nd)) (r : Nat) : rsum o (rot ts r) = rsum o ts := by
  unfold rot
  rw [rsum_append, Nat.add_comm, ← rsum_append, List.take_append_drop]
theorem rot_at (ts : List (Int × List Nd)) (r k : Nat) (hr : r < ts.length) (hk : k < ts.length) : (rot ts r).getD k (0, []) = ts.getD ((k + r) % ts.length) (0, []) := by
  unfold rot List.getD
  by_cases h : k < ts.length - r
  · rw [List.getElem?_append_left (by simp; omega), List.getElem?_drop, Nat.mod_eq_of_lt (by omega), Nat.add_comm]
  · rw [List.getElem?_append_right (by simp; omega), List.getElem?_take, if_pos (by simp; omega), List.length_drop, show (k + r) % ts.length = k - (ts.length - r) by
      rw [Nat.mod_eq_sub_mod (by omega), Nat.mod_eq_of_lt (by omega)]; omega]
/-- The trees that are taken, behind so many rounds. -/
def chT (ts : List (Int × List Nd)) (r : Nat) (out : List Bool) : Nat → List (Int × List Nd)
  | 0 => []
  | k + 1 => if out.getD ((k + r) % ts.length) false = true then chT ts r out k else chT ts r out k ++ [ts.getD ((k + r) % ts.length) (0, [])]
theorem chT_sub (ts : List (Int × List Nd)) (r : Nat) (out : List Bool) (hr : r < ts.length) : ∀ k, k ≤ ts.length → (chT ts r out k).Sublist ((rot ts r).take k)
  | 0, _ => by simp [chT]
  | k + 1, h => by
    have hl : k < (rot ts r).length := by rw [rot_len ts r (by omega)]; omega
    have hg : (rot ts r)[k] = ts.getD ((k + r) % ts.length) (0, []) := by rw [← rot_at ts r k hr (by omega)]; simp [List.getD, hl]
    rw [chT, List.take_succ_eq_append_getElem hl, hg]
    have ih := chT_sub ts r out hr k (by omega)
    split
    · exact ih.trans (List.sublist_append_left _ _)
    · exact ih.append (List.Sublist.refl _)
theorem chT_len (ts : List (Int × List Nd)) (r : Nat) (out : List Bool) : ∀ k, (chT ts r out k).length ≤ k
  | 0 => Nat.le_refl _
  | k + 1 => by
    have := chT_len ts r out k
    rw [chT]
    split
    · omega
    · simp; exact this
theorem chT_mem (ts : List (Int × List Nd)) (r : Nat) (out : List Bool) (hn : 0 < ts.length) : ∀ k, ∀ t ∈ chT ts r out k, ∃ i, i < ts.length ∧ t = ts.getD i (0, [])
  | 0, t, h => by simp [chT] at h
  | k + 1, t, h => by
    rw [chT] at h
    split at h
    · exact chT_mem ts r out hn k t h
    · rcases List.mem_append.1 h with h | h
      · exact chT_mem ts r out hn k t h
      · exact ⟨_, Nat.mod_lt _ hn, by simpa using h⟩
theorem tsF_mk {N F : Int} {ts : List (Int × List Nd)} : ∀ (f k : Nat), (∀ i, k ≤ i → i < k + f → (trB (ts.getD i (0, [])).1 N F (ts.getD i (0, [])).2 (i : Int)).1 = 0) → (tsF N F ts f k).1 = 0
  | 0, k, _ => rfl
  | f + 1, k, h => by
    rw [tsF, if_pos (h k (by omega) (by omega))]
    exact tsF_mk f (k + 1) fun i h1 h2 => h i (by omega) (by omega)
theorem ouF_mk {base : List Int} {ts : List (Int × List Nd)} : ∀ (f k : Nat), (∀ i, k ≤ i → i < k + f → rm base ts i < 4611686018427387904) → (ouF base ts f k).1 = 0
  | 0, k, _ => rfl
  | f + 1, k, h => by
    rw [ouF, if_pos (by unfold okS; exact decide_eq_true (h k (by omega) (by omega)))]
    exact ouF_mk f (k + 1) fun i h1 h2 => h i (by omega) (by omega)
/-- Other trees and other names. -/
theorem chB_other {nm : ByteArray} {fs fs' : List ByteArray} {N : Int} {base : List Int} {ts ts' : List (Int × List Nd)} (h : (chB nm fs N base ts).1 = 0) (hl : fs'.length = fs.length) (hf : (ftB fs').1 = 0) (hn : ts'.length ≤ 65536)
    (ht : ∀ t ∈ ts', ∃ i : Int, (trB t.1 N fs.length t.2 i).1 = 0) (hs : ∀ o, rsum o ts' ≤ rsum o ts) : (chB nm fs' N base ts').1 = 0 := by
  obtain ⟨-, h1, h2, h3, h4, h5, h6⟩ := chB_ok h
  have hh : (hdS nm fs.length).1 = 0 := by
    rw [chB_eq] at h
    split at h
    · rename_i q
      unfold or3 at q
      by_cases a : (hdS nm fs.length).1 = 0
      · exact a
      · rw [if_neg a] at q; exact absurd q a
    · rename_i q; exact absurd h q
  rw [chB_eq, hl, if_pos, if_pos]
  · refine ouF_mk _ _ fun i _ hi => ?_
    have := ouF_all _ _ h6 i (by omega) (by omega)
    rw [rm_sum] at this ⊢
    have := hs i
    omega
  · refine tsF_mk _ _ fun i _ hi => ?_
    have hi' : i < ts'.length := by omega
    obtain ⟨j, hj⟩ := ht (ts'.getD i (0, [])) (by simp [List.getD, hi'])
    exact trB_at hj _
  · unfold or3
    rw [if_pos hh, if_pos hf]
    unfold ctS
    refine sel_mk _ _ _ ?_
    intro x hx
    simp at hx
    rcases hx with rfl | rfl | rfl
    · exact win_mk h1.1 h1.2
    · simpa using h2
    · simp; omega
/-- Each tree numbered anew. -/
theorem chB_model {nm : ByteArray} {fs : List ByteArray} {N : Int} {base : List Int} {ts : List (Int × List Nd)} (h : (chB nm fs N base ts).1 = 0) : (chB nm fs N base (mdT ts)).1 = 0 ∧ mdE ts = 0 := by
  obtain ⟨-, h1, h2, h3, h4, h5, h6⟩ := chB_ok h
  have hm : ∀ t ∈ ts, ∃ i : Int, (trB t.1 N fs.length t.2 i).1 = 0 := by
    intro t ht
    obtain ⟨i, hi, rfl⟩ := List.getElem_of_mem ht
    have := h5 i hi
    rw [show ts.getD i (0, []) = ts[i] by simp [List.getD, hi]] at this
    exact ⟨_, this⟩
  have hff : (ftB fs).1 = 0 := by
    rw [chB_eq] at h
    split at h
    · rename_i q
      unfold or3 at q
      by_cases a : (hdS nm fs.length).1 = 0
      · rw [if_pos a] at q
        by_cases b : (ftB fs).1 = 0
        · exact b
        · rw [if_neg b] at q; exact absurd q b
      · rw [if_neg a] at q; exact absurd q a
    · rename_i q; exact absurd h q
  refine ⟨chB_other h rfl hff (by unfold mdT; rw [List.length_map]; exact h3) ?_ ?_, ?_⟩
  · intro t ht
    obtain ⟨s, hs, rfl⟩ := List.mem_map.1 ht
    obtain ⟨i, hi⟩ := hm s hs
    exact ⟨i, (trB_cno hi i).1⟩
  · intro o
    refine rsum_map ts fun t ht => ?_
    obtain ⟨i, hi⟩ := hm t ht
    have := trB_cno hi i
    unfold wo1
    simp only
    rw [this.2.2]
    split
    · exact this.2.1
    · exact Nat.le_refl _
  · clear h3 h5 h6 h2 h
    induction ts with
    | nil => rfl
    | cons t ts ih =>
      obtain ⟨i, hi⟩ := hm t (by simp)
      rw [show t = (t.1, t.2) from rfl, mdE, if_pos (trB_ok hi).2.2.1]
      exact ih fun x hx => hm x (List.mem_cons_of_mem _ hx)
/-- In another order, some left out, with other names. -/
theorem chB_chosen {nm : ByteArray} {fs fs' : List ByteArray} {N : Int} {base : List Int} {ts : List (Int × List Nd)} (r : Nat) (out : List Bool) (h : (chB nm fs N base ts).1 = 0) (hl : fs'.length = fs.length) (hf : (ftB fs').1 = 0) (hr : 0 < ts.length → r < ts.length) : (chB nm fs' N base (chT ts r out ts.length)).1 = 0 := by
  obtain ⟨-, h1, h2, h3, h4, h5, h6⟩ := chB_ok h
  by_cases hn : 0 < ts.length
  · refine chB_other h hl hf (Nat.le_trans (chT_len _ _ _ _) h3) ?_ ?_
    · intro t ht
      obtain ⟨i, hi, rfl⟩ := chT_mem ts r out hn _ t ht
      exact ⟨_, h5 i hi⟩
    · intro o
      have := rsum_sub (o := o) (chT_sub ts r out (hr hn) ts.length (Nat.le_refl _))
      rw [List.take_of_length_le (by rw [rot_len ts r (by have := hr hn; omega)]; omega), rot_sum] at this
      exact this
  · have : ts = [] := List.eq_nil_of_length_eq_zero (by omega)
    subst this
    refine chB_other h hl hf (by simp [chT]) (fun t ht => by simp [chT] at ht) fun o => by simp [chT]
end Go.Proofs.YtinjikoocegooaaGreatDoor
set_option linter.unusedVariables false
set_option linter.unusedSimpArgs false
namespace Go.Proofs.YtinjikoocegooaaGreatDoor
open Go.RowKit Go.Shelf
/-- The names that are another one each. -/
def nby (i j : Nat) : Nat := 97 + i / 20 ^ j % 20
def nmL (i : Nat) : List UInt8 := [102, UInt8.ofNat (nby i 0), UInt8.ofNat (nby i 1), UInt8.ofNat (nby i 2), UInt8.ofNat (nby i 3)]
def nmB (i : Nat) : ByteArray := ⟨(nmL i).toArray⟩
def nms (F : Nat) : List ByteArray := (List.range F).map nmB
theorem nby_lt (i j : Nat) : 97 ≤ nby i j ∧ nby i j ≤ 116 := by
  unfold nby
  have := Nat.mod_lt (i / 20 ^ j) (show 0 < 20 by omega)
  omega
theorem nby_nat (i j : Nat) : (UInt8.ofNat (nby i j)).toNat = nby i j := by
  have := nby_lt i j
  rw [UInt8.toNat_ofNat']
  omega
theorem nms_len (F : Nat) : (nms F).length = F := by simp [nms]
theorem nms_at {F k : Nat} (h : k < F) : (nms F).getD k ByteArray.empty = nmB k := by simp [nms, List.getD, h]
theorem nms_next (F : Nat) : nms (F + 1) = nms F ++ [nmB F] := by simp [nms, List.range_succ]
theorem nm_name (i : Nat) : nameB (nmB i) = true := by
  unfold nameB
  have h5 : (nmB i).size = 5 := rfl
  rw [decide_eq_true_eq, h5]
  refine ⟨by omega, by omega, fun j hj => ?_⟩
  have hb : bt (nmB i) j = ((nmL i)[j]'(by simp [nmL]; omega)).toNat := by
    unfold bt
    rw [dif_pos (by rw [h5]; exact hj)]
    rfl
  rw [hb]
  have q := fun k => nby_lt i k
  have z : ∀ n, 97 ≤ n → n ≤ 116 → nmc n = true := by
    intro n h1 h2
    unfold nmc
    simp [h1, show n ≤ 122 by omega]
  match j, hj with
  | 0, _ => rfl
  | 1, _ => exact (congrArg nmc (nby_nat i 0)).trans (z _ (q 0).1 (q 0).2)
  | 2, _ => exact (congrArg nmc (nby_nat i 1)).trans (z _ (q 1).1 (q 1).2)
  | 3, _ => exact (congrArg nmc (nby_nat i 2)).trans (z _ (q 2).1 (q 2).2)
  | 4, _ => exact (congrArg nmc (nby_nat i 3)).trans (z _ (q 3).1 (q 3).2)
theorem nm_inj {i j : Nat} (hi : i < 160000) (hj : j < 160000) (h : nmB i = nmB j) : i = j := by
  have e : nmL i = nmL j := by
    have := congrArg (fun b : ByteArray => b.data.toList) h
    simpa [nmB] using this
  unfold nmL at e
  simp only [List.cons.injEq, and_true, true_and] at e
  obtain ⟨e0, e1, e2, e3⟩ := e
  have f0 := congrArg UInt8.toNat e0
  have f1 := congrArg UInt8.toNat e1
  have f2 := congrArg UInt8.toNat e2
  have f3 := congrArg UInt8.toNat e3
  rw [nby_nat, nby_nat] at f0 f1 f2 f3
  unfold nby at f0 f1 f2 f3
  simp at f0 f1 f2 f3
  omega
theorem sn_mem {fs : List ByteArray} : ∀ (k : Nat) (x : ByteArray), x ∈ sn fs k → ∃ j, j < k ∧ x = fs.getD j ByteArray.empty
  | 0, x, h => by simp [sn] at h
  | k + 1, x, h => by
    rw [sn] at h
    rcases List.mem_cons.1 h with h | h
    · exact ⟨k, by omega, h⟩
    · obtain ⟨j, hj, e⟩ := sn_mem k x h
      exact ⟨j, by omega, e⟩
theorem ftF_nms {F : Nat} (hF : F ≤ 160000) : ∀ (f k : Nat), k + f = F → (ftF (nms F) f k).1 = 0
  | 0, k, _ => rfl
  | f + 1, k, h => by
    rw [ftF, nms_at (by omega), if_pos (nm_name k), if_neg]
    · exact ftF_nms hF f (k + 1) (by omega)
    · intro q
      unfold inSet at q
      obtain ⟨x, hx, e⟩ := List.any_eq_true.1 q
      obtain ⟨j, hj, rfl⟩ := sn_mem k x hx
      rw [nms_at (by omega)] at e
      have := nm_inj (by omega) (by omega) (of_decide_eq_true e)
      omega
theorem ft_nms {F : Nat} (hF : F ≤ 160000) : (ftB (nms F)).1 = 0 := by
  unfold ftB
  exact ftF_nms hF _ _ (by rw [nms_len]; omega)
end Go.Proofs.YtinjikoocegooaaGreatDoor
set_option linter.unusedVariables false
set_option linter.unusedSimpArgs false
namespace Go.Proofs.YtinjikoocegooaaGreatDoor
open Go.RowKit Go.Shelf
def nbk (i k j : Nat) : Nat := if j < k then nby i (j - 1) else 97
def nmA (i k : Nat) : Array Value := #[.int .u8 102, .int .u8 (nbk i k 1 : Nat), .int .u8 (nbk i k 2 : Nat), .int .u8 (nbk i k 3 : Nat), .int .u8 (nbk i k 4 : Nat)]
theorem nm_num {x : Nat} (hx : x ≤ 65536) : IntKind.i64.wrap (97 + ((x : Int).tmod 20)) = ((97 + x % 20 : Nat) : Int) ∧ IntKind.u8.wrap ((97 + x % 20 : Nat) : Int) = ((97 + x % 20 : Nat) : Int) ∧ (x : Int).tdiv 20 = ((x / 20 : Nat) : Int) := by
  have h1 : (x : Int).tmod 20 = ((x % 20 : Nat) : Int) := by rw [Int.tmod_eq_emod_of_nonneg (by omega)]; omega
  have h2 : (x : Int).tdiv 20 = ((x / 20 : Nat) : Int) := by rw [Int.tdiv_eq_ediv_of_nonneg (by omega)]; omega
  refine ⟨?_, ?_, h2⟩
  · rw [h1, IntWalk.i64_left, IntWalk.wrap64_in _ (by omega)]; omega
  · rw [IntKind.wrap_u8]; omega
end Go.Proofs.YtinjikoocegooaaGreatDoor
set_option linter.unusedVariables false
set_option linter.unusedSimpArgs false
namespace Go.Proofs.YtinjikoocegooaaGreatDoor
open Go.RowKit Go.Shelf
/-- An ensemble whose trees are being chosen, in its box. -/
structure FJt (w4 : World) (g : Nat) (h0 h1 h2 h3 : Value) (us : List (Int × List Nd)) (wr : World) (v : Value) (K : List (Int × Option Addr × Nat × Nat)) : Prop where
  len : K.length = us.length
  eq : ∀ j, j < us.length → (K.getD j tt0).1 = (us.getD j (0, [])).1 ∧ (K.getD j tt0).2.2.1 = (us.getD j (0, [])).2.length ∧ (us.getD j (0, [])).2.length ≤ (K.getD j tt0).2.2.2 ∧ RdN w4 (K.getD j tt0).2.1 (us.getD j (0, [])).2 ∧ (us.getD j (0, [])).2.length ≤ 2199023255552 ∧ (-9223372036854775808 ≤ (us.getD j (0, [])).1 ∧ (us.getD j (0, [])).1 ≤ 9223372036854775807)
  own : OwnT (g + 1) wr v K
  kp : Keep w4 wr
  gl : w4.heap.size ≤ g
  bx : wr.heap[g]? = some (.cells #[h0, h1, h2, h3, v] 26 (0, 0))
theorem getD_snocU (l : List (Int × List Nd)) (x : Int × List Nd) (j : Nat) : (l ++ [x]).getD j (0, []) = if j = l.length then x else l.getD j (0, []) := by
  unfold List.getD
  by_cases h : j < l.length
  · rw [List.getElem?_append_left h, if_neg (by omega)]
  · rw [List.getElem?_append_right (by omega)]
    by_cases e : j = l.length
    · rw [if_pos e, e]; simp
    · rw [if_neg e, List.getElem?_eq_none (by simp; omega), List.getElem?_eq_none (by omega)]
theorem FJt.start {w4 wr : World} {g : Nat} {h0 h1 h2 h3 : Value} (kp : Keep w4 wr) (gl : w4.heap.size ≤ g) (bx : wr.heap[g]? = some (.cells #[h0, h1, h2, h3, .slice none 0 0] 26 (0, 0))) : FJt w4 g h0 h1 h2 h3 [] wr (.slice none 0 0) [] :=
  ⟨rfl, fun j hj => by simp at hj, OwnT.nil _ _, kp, gl, bx⟩
theorem FJt.keep {w4 wr w' : World} {g : Nat} {h0 h1 h2 h3 : Value} {us : List (Int × List Nd)} {v : Value} {K : List (Int × Option Addr × Nat × Nat)} (h : FJt w4 g h0 h1 h2 h3 us wr v K) (k : Keep wr w') : FJt w4 g h0 h1 h2 h3 us w' v K :=
  ⟨h.len, h.eq, h.own.keep k, h.kp.trans k, h.gl, k.at h.bx⟩
theorem FJt.set1 {w4 wr : World} {g : Nat} {h0 h1 h2 h3 : Value} {us : List (Int × List Nd)} {v : Value} {K : List (Int × Option Addr × Nat × Nat)} (h : FJt w4 g h0 h1 h2 h3 us wr v K) (u : Value) : FJt w4 g h0 u h2 h3 us (wr.setCell ⟨g, 1, none⟩ u) v K := by
  refine ⟨h.len, h.eq, h.own.same (fun b hb => neq_set wr _ _ _ b (by have := (h.own.block hb).1; omega)), h.kp.setCell (p := ⟨g, 1, none⟩) h.gl _, h.gl, ?_⟩
  have := heap_setCell_same wr g 1 _ 26 u h.bx
  simpa using this
/-- One tree more. -/
theorem FJt.step {w4 wr w7 : World} {g : Nat} {h0 h1 h2 h3 : Value} {us : List (Int × List Nd)} {v v' : Value} {K : List (Int × Option Addr × Nat × Nat)} {ob : Obj} {out : Int} {L : List Nd} {an : Option Addr} {cn : Nat} (h : FJt w4 g h0 h1 h2 h3 us wr v K)
    (hc : L.length ≤ cn) (hn : RdN w4 an L) (hl : L.length ≤ 2199023255552) (hf : -9223372036854775808 ≤ out ∧ out ≤ 9223372036854775807) (hO : OwnT (g + 1) w7 v' (K ++ [(out, an, L.length, cn)])) (g7 : (wr.drew.alloc ob).grownBy w7 v.ownBlock) :
    FJt w4 g h0 h1 h2 h3 (us ++ [(out, L)]) (w7.setCell ⟨g, 4, none⟩ v') v' (K ++ [(out, an, L.length, cn)]) ∧ w7.heap[g]? = some (.cells #[h0, h1, h2, h3, v] 26 (0, 0)) := by
  have hlt : ∀ b, v.ownBlock = some b → g + 1 ≤ b := fun b hb => (h.own.block hb).1
  have hg : g < wr.heap.size := lt_of_at h.bx
  have kd : Keep w4 (wr.drew.alloc ob) := (h.kp.drew).alloc _
  have e1 : w7.heap[g]? = some (.cells #[h0, h1, h2, h3, v] 26 (0, 0)) := by
    rw [g7.block g (by rw [World.size_alloc]; show g < wr.heap.size + 1; omega) (fun e => by have := hlt g e.symm; omega)]
    exact (((Keep.refl wr).drew).alloc ob).at h.bx
  refine ⟨⟨by simp [h.len], ?_, ?_, ?_, h.gl, ?_⟩, e1⟩
  · intro j hj
    rw [getD_snocT, getD_snocU, h.len]
    by_cases e : j = us.length
    · rw [if_pos e, if_pos e]; exact ⟨rfl, rfl, hc, hn, hl, hf⟩
    · rw [if_neg e, if_neg e]; exact h.eq j (by simp at hj; omega)
  · exact hO.same (fun b hb => neq_set w7 _ _ _ b (by have := (hO.block hb).1; omega))
  · exact Keep.setCell (Below.grown kd g7 kd.le (fun b hb => by have := hlt b hb; have := h.gl; omega)) (p := ⟨g, 4, none⟩) h.gl _
  · have := heap_setCell_same w7 g 4 _ 26 v' e1
    simpa using this
theorem FJt.rdT {w4 wr : World} {g : Nat} {h0 h1 h2 h3 : Value} {us : List (Int × List Nd)} {v : Value} {K : List (Int × Option Addr × Nat × Nat)} (h : FJt w4 g h0 h1 h2 h3 us wr v K) : ∃ ta ct, v = .slice ta us.length ct ∧ RdT wr ta us := by
  obtain ⟨ta, ct, rfl, hc, hr⟩ := h.own.shape
  refine ⟨ta, ct, by rw [h.len], ?_⟩
  intro j hj
  obtain ⟨b, rfl, hb⟩ := hr j (by rw [h.len]; exact hj)
  obtain ⟨e1, e2, e3, e4, e5, e6⟩ := h.eq j hj
  have c0 := hb 0 _ (by omega) rfl
  have c1 := hb 1 _ (by omega) rfl
  rw [e1] at c0
  rw [e2] at c1
  exact ⟨b, 0, _, _, rfl, by rw [Nat.zero_add]; exact c0, by rw [Nat.zero_add]; exact c1, e4.keep h.kp, e3, e5, e6⟩
/-- A list of yes and no that can be read. -/
def RdO (w : World) (a : Option Addr) (l : List Bool) : Prop := ∀ j, j < l.length → ∃ b o, a = some ⟨b, o, none⟩ ∧ w.cell? ⟨b, o + j, none⟩ = some (.bool (l.getD j false))
theorem RdO.keep {w w' : World} {a : Option Addr} {l : List Bool} (h : RdO w a l) (k : Keep w w') : RdO w' a l := by
  intro j hj
  obtain ⟨b, o, e, hc⟩ := h j hj
  exact ⟨b, o, e, k.cell hc⟩
end Go.Proofs.YtinjikoocegooaaGreatDoor
