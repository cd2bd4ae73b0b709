import Derived.Test.YtpogipmamciciaaDoorProg
import Derived.Test.YtpogipmamciciaaDoorW3
import Derived.Test.YtpogipmamciciaaDoorMS36
import Derived.WalkKit
import Derived.WalkSpells
import Derived.WalkLawsBesides
import Derived.Deep.Draws
import Derived.Deep.QuietTactic
import Derived.BigQuiet
import Derived.Laws.Externs
import Derived.Laws.CopyOwn
import Derived.Shelf.Abstract
import Derived.Deep.RegionLaw
import Derived.BigRegion
import Derived.Deep.RegionHeld3
import Derived.RangeFuncBox
import Derived.RangeFuncLeaves
import Derived.RangeFuncCalls
import Derived.RangeFuncRecord
import Derived.Below
import Derived.OwnWalkIn
import Derived.TacticsInMore
import Derived.LoopNIn
import Derived.LoopIn
import Derived.Sort.LoopGhostIn
import Derived.Deep.RegionWith
import Derived.Stop.RegionWithIn
import Derived.Laws.MathBits
import Derived.Maps.OwnSet
import Derived.StringKeys
import Derived.RegionTactic
import Derived.Orders
import Derived.OrdersIn
import Derived.RegionIn
import Ieee.Arith
import Derived.Laws.StructEq
import Derived.Lib.BufferWrite
import Derived.Lib.UnsafeStr
import Derived.Test.YtpogipmamciciaaDoorMS15
import Derived.Laws.IdiomStrings
set_option linter.unusedVariables false
set_option linter.unusedSimpArgs false
namespace Go.Proofs.YtpogipmamciciaaDoor
open Go.RowKit Go.Shelf
theorem lgF_max {L : List Nd} {B : Nat} : ∀ (f k m : Nat), m ≤ B → (∀ i, k ≤ i → i < k + f → (L.getD i nd0).kd = 1 → (L.getD i nd0).vl.natAbs ≤ B) → lgF L f k m ≤ B
  | 0, k, m, h, _ => h
  | f + 1, k, m, h, hi => by
    rw [lgF]
    refine lgF_max f (k + 1) _ ?_ (fun i h1 h2 => hi i (by omega) (by omega))
    split
    · rename_i q
      exact hi k (by omega) (by omega) (by have := q.1; unfold kdB at this; simpa using this)
    · exact h
theorem lg_max {L : List Nd} {B : Nat} (h : ∀ i, i < L.length → (L.getD i nd0).kd = 1 → (L.getD i nd0).vl.natAbs ≤ B) : lg L ≤ B :=
  lgF_max _ _ _ (by omega) (fun i _ h2 => h i (by omega))
theorem lg_ge {L : List Nd} {i : Nat} (hi : i < L.length) (h : (L.getD i nd0).kd = 1) : (L.getD i nd0).vl.natAbs ≤ lg L := lgF_ge _ _ _ _ (by omega) (by omega) h
theorem cno_at {L : List Nd} (h : shE L = 0) {j : Nat} (hj : j < (cnoL L).length) : ∃ i, i < L.length ∧ (cnoL L).getD j nd0 = rcN (anF L.length (ord (shp L) L.length)) (L.getD i nd0) := by
  have hj' : j < (ord (shp L) L.length).length := by simpa [cnoL] using hj
  refine ⟨(ord (shp L) L.length)[j], ord_lt (shE_rgt h).wi _ (List.getElem_mem _), ?_⟩
  simp [cnoL, List.getD, hj']
theorem cno_lg {L : List Nd} (h : shE L = 0) : lg (cnoL L) ≤ lg L := by
  refine lg_max fun j hj hk => ?_
  obtain ⟨i, hi, e⟩ := cno_at h hj
  rw [e] at hk ⊢
  exact lg_ge hi hk
theorem tnF_mk {L : List Nd} {F t : Int} : ∀ (f k : Nat), (∀ i, k ≤ i → i < k + f → (sel (ndS (L.getD i nd0) F (L.length : Int)) t (i : Int)).1 = 0) → (tnF L F t f k).1 = 0
  | 0, k, _ => rfl
  | f + 1, k, h => by
    rw [tnF, if_pos (h k (by omega) (by omega))]
    exact tnF_mk f (k + 1) fun i h1 h2 => h i (by omega) (by omega)
theorem sel_mk : ∀ (l : List (Int × Bool)) (t n : Int), (∀ x ∈ l, x.2 = true) → (sel l t n).1 = 0
  | [], t, n, _ => rfl
  | (r, b) :: l, t, n, h => by
    rw [sel, if_pos (h (r, b) (by simp))]
    exact sel_mk l t n fun x hx => h x (List.mem_cons_of_mem _ hx)
theorem win_mk {n lo hi : Int} (h1 : lo ≤ n) (h2 : n ≤ hi) : winB n lo hi = true := by unfold winB; simp [h1, h2]
/-- A right node breaks no rule. -/
theorem nd_mk {n : Nd} {F : Int} {M : Nat} (hr : rightB n M = true) (hf : (n.kd = 2 ∨ n.kd = 3) → 0 ≤ n.ft ∧ n.ft ≤ F - 1) (t i : Int) : (sel (ndS n F (M : Int)) t i).1 = 0 := by
  refine sel_mk _ _ _ ?_
  unfold rightB at hr
  by_cases k1 : n.kd = 1
  · rw [if_pos k1] at hr
    simp only [Bool.and_eq_true, decide_eq_true_eq, bareB] at hr
    obtain ⟨⟨⟨⟨r1, r2, r3⟩, r4⟩, r5⟩, r6⟩ := hr
    simp [ndS, q13, restB, q15, q16, q17, q18, q19, kdB, innB, vlB, csB, thB, ftB0, msB, lfB, rtB, k1, r1, r2, r3, r4, r5, r6]
  · rw [if_neg k1] at hr
    by_cases k2 : n.kd = 2
    · rw [if_pos k2] at hr
      have hf' := hf (.inl k2)
      simp only [Bool.and_eq_true, decide_eq_true_eq, spl] at hr
      obtain ⟨⟨⟨s1, s2, s3, s4, s5, s6⟩, r2⟩, r3⟩ := hr
      have w1 := win_mk hf'.1 hf'.2
      have w2 := win_mk s5.1 (show n.lf ≤ (M : Int) - 1 by omega)
      have w3 := win_mk s6.1 (show n.rt ≤ (M : Int) - 1 by omega)
      simp at r2 r3
      simp [ndS, q13, restB, q15, q16, q17, q18, q19, kdB, innB, vlB, csB, thB, ftB0, msB, lfB, rtB, k2, s1, s4, w1, w2, w3, r2, r3]
    · rw [if_neg k2] at hr
      by_cases k3 : n.kd = 3
      · rw [if_pos k3] at hr
        have hf' := hf (.inr k3)
        simp only [Bool.and_eq_true, decide_eq_true_eq, spl] at hr
        obtain ⟨⟨⟨s1, s2, s3, s4, s5, s6⟩, r2⟩, r3⟩ := hr
        have w1 := win_mk hf'.1 hf'.2
        have w2 := win_mk s5.1 (show n.lf ≤ (M : Int) - 1 by omega)
        have w3 := win_mk s6.1 (show n.rt ≤ (M : Int) - 1 by omega)
        simp [ndS, q13, restB, q15, q16, q17, q18, q19, kdB, innB, vlB, csB, thB, ftB0, msB, lfB, rtB, k3, s1, s4, w1, w2, w3, r2, r3]
      · rw [if_neg k3] at hr; cases hr
/-- A right tree breaks no rule. -/
theorem trB_mk {out N F : Int} {L : List Nd} (t : Int) (h1 : 0 ≤ out ∧ out ≤ N - 1) (h2 : 1 ≤ L.length ∧ L.length ≤ 8191) (h3 : shE L = 0) (h4 : ∀ i, i < L.length → ((L.getD i nd0).kd = 2 ∨ (L.getD i nd0).kd = 3) → 0 ≤ (L.getD i nd0).ft ∧ (L.getD i nd0).ft ≤ F - 1) : (trB out N F L t).1 = 0 := by
  unfold trB
  rw [if_pos (sel_mk _ _ _ (by
    intro x hx
    simp at hx
    rcases hx with rfl | rfl
    · exact win_mk h1.1 h1.2
    · exact win_mk (by omega) (by omega))), if_pos (tnF_mk _ _ fun i _ hi => nd_mk ((shE_rgt h3).2 i (by omega)) (h4 i (by omega)) _ _)]
  exact sel_mk _ _ _ (by intro x hx; simp at hx; rcases hx with rfl; simpa using h3)
/-- The same tree, wherever it stands; and numbered anew. -/
theorem trB_at {out N F : Int} {L : List Nd} {t : Int} (h : (trB out N F L t).1 = 0) (t' : Int) : (trB out N F L t').1 = 0 := by
  obtain ⟨h1, h2, h3, h4⟩ := trB_ok h
  exact trB_mk t' h1 h2 h3 h4
theorem trB_cno {out N F : Int} {L : List Nd} {t : Int} (h : (trB out N F L t).1 = 0) (t' : Int) : (trB (cnoO L out) N F (cnoN L) t').1 = 0 ∧ lg (cnoN L) ≤ lg L ∧ cnoO L out = out := by
  obtain ⟨h1, h2, h3, h4⟩ := trB_ok h
  have e : cnoN L = cnoL L := by unfold cnoN; rw [if_pos h3]
  have eo : cnoO L out = out := by unfold cnoO; rw [if_pos h3]
  have hl : (cnoL L).length = L.length := by unfold cnoL; rw [List.length_map]; exact ord_full h3
  rw [e, eo]
  refine ⟨trB_mk t' h1 (by omega) (cno_shE h3) ?_, cno_lg h3, rfl⟩
  intro j hj hk
  obtain ⟨i, hi, e⟩ := cno_at h3 hj
  rw [e] at hk ⊢
  exact h4 i hi hk
end Go.Proofs.YtpogipmamciciaaDoor
set_option linter.unusedVariables false
set_option linter.unusedSimpArgs false
namespace Go.Proofs.YtpogipmamciciaaDoor
open Go.RowKit Go.Shelf
/-- What a tree adds to an output's room. -/
def wo1 (o : Int) (t : Int × List Nd) : Nat := if t.1 = o then lg t.2 else 0
def rsum (o : Int) : List (Int × List Nd) → Nat
  | [] => 0
  | t :: l => wo1 o t + rsum o l
theorem rmF_sum {o : Int} {ts : List (Int × List Nd)} : ∀ (f k s : Nat), k + f = ts.length → rmF o ts f k s = s + rsum o (ts.drop k)
  | 0, k, s, h => by rw [rmF, List.drop_eq_nil_of_le (by omega), rsum]; omega
  | f + 1, k, s, h => by
    have hk : k < ts.length := by omega
    rw [rmF, rmF_sum f (k + 1) _ (by omega), List.drop_eq_getElem_cons hk, rsum, wo1, show ts.getD k (0, []) = ts[k] by simp [List.getD, hk]]
    split <;> omega
theorem rm_sum (base : List Int) (ts : List (Int × List Nd)) (o : Nat) : rm base ts o = (base.getD o 0).natAbs + rsum (o : Int) ts := by
  unfold rm
  rw [rmF_sum _ _ _ (by omega)]
  rfl
theorem rsum_append (o : Int) : ∀ l l', rsum o (l ++ l') = rsum o l + rsum o l'
  | [], l' => by simp [rsum]
  | t :: l, l' => by rw [List.cons_append, rsum, rsum, rsum_append o l l']; omega
theorem rsum_sub {o : Int} {l l' : List (Int × List Nd)} (h : l.Sublist l') : rsum o l ≤ rsum o l' := by
  induction h with
  | slnil => exact Nat.le_refl _
  | cons a h ih => rw [rsum]; omega
  | cons_cons a h ih => rw [rsum, rsum]; omega
theorem rsum_map {o : Int} {g : Int × List Nd → Int × List Nd} : ∀ l : List (Int × List Nd), (∀ t ∈ l, wo1 o (g t) ≤ wo1 o t) → rsum o (l.map g) ≤ rsum o l
  | [], _ => Nat.le_refl _
  | t :: l, h => by
    rw [List.map_cons, rsum, rsum]
    have := h t (by simp)
    have := rsum_map l fun x hx => h x (List.mem_cons_of_mem _ hx)
    omega
/-- Trees from one on, and then those ahead of it. -/
def rot (ts : List (Int × List Nd)) (r : Nat) : List (Int × List Nd) := ts.drop r ++ ts.take r
theorem rot_len (ts : List (Int × List Nd)) (r : Nat) (h : r ≤ ts.length) : (rot ts r).length = ts.length := by unfold rot; simp; omega
theorem rot_sum (o : Int) (ts : List (Int × List Nd)) (r : Nat) : rsum o (rot ts r) = rsum o ts := by
  unfold rot
  rw [rsum_append, Nat.add_comm, ← rsum_append, List.take_append_drop]
theorem rot_at (ts : List (Int × List Nd)) (r k : Nat) (hr : r < ts.length) (hk : k < ts.length) : (rot ts r).getD k (0, []) = ts.getD ((k + r) % ts.length) (0, []) := by
  unfold rot List.getD
  by_cases h : k < ts.length - r
  · rw [List.getElem?_append_left (by simp; omega), List.getElem?_drop, Nat.mod_eq_of_lt (by omega), Nat.add_comm]
  · rw [List.getElem?_append_right (by simp; omega), List.getElem?_take, if_pos (by simp; omega), List.length_drop, show (k + r) % ts.length = k - (ts.length - r) by
      rw [Nat.mod_eq_sub_mod (by omega), Nat.mod_eq_of_lt (by omega)]; omega]
/-- The trees that are taken, behind so many rounds. -/
def chT (ts : List (Int × List Nd)) (r : Nat) (out : List Bool) : Nat → List (Int × List Nd)
  | 0 => []
  | k + 1 => if out.getD ((k + r) % ts.length) false = true then chT ts r out k else chT ts r out k ++ [ts.getD ((k + r) % ts.length) (0, [])]
theorem chT_sub (ts : List (Int × List Nd)) (r : Nat) (out : List Bool) (hr : r < ts.length) : ∀ k, k ≤ ts.length → (chT ts r out k).Sublist ((rot ts r).take k)
  | 0, _ => by simp [chT]
  | k + 1, h => by
    have hl : k < (rot ts r).length := by rw [rot_len ts r (by omega)]; omega
    have hg : (rot ts r)[k] = ts.getD ((k + r) % ts.length) (0, []) := by rw [← rot_at ts r k hr (by omega)]; simp [List.getD, hl]
    rw [chT, List.take_succ_eq_append_getElem hl, hg]
    have ih := chT_sub ts r out hr k (by omega)
    split
    · exact ih.trans (List.sublist_append_left _ _)
    · exact ih.append (List.Sublist.refl _)
theorem chT_len (ts : List (Int × List Nd)) (r : Nat) (out : List Bool) : ∀ k, (chT ts r out k).length ≤ k
  | 0 => Nat.le_refl _
  | k + 1 => by
    have := chT_len ts r out k
    rw [chT]
    split
    · omega
    · simp; exact this
theorem chT_mem (ts : List (Int × List Nd)) (r : Nat) (out : List Bool) (hn : 0 < ts.length) : ∀ k, ∀ t ∈ chT ts r out k, ∃ i, i < ts.length ∧ t = ts.getD i (0, [])
  | 0, t, h => by simp [chT] at h
  | k + 1, t, h => by
    rw [chT] at h
    split at h
    · exact chT_mem ts r out hn k t h
    · rcases List.mem_append.1 h with h | h
      · exact chT_mem ts r out hn k t h
      · exact ⟨_, Nat.mod_lt _ hn, by simpa using h⟩
theorem tsF_mk {N F : Int} {ts : List (Int × List Nd)} : ∀ (f k : Nat), (∀ i, k ≤ i → i < k + f → (trB (ts.getD i (0, [])).1 N F (ts.getD i (0, [])).2 (i : Int)).1 = 0) → (tsF N F ts f k).1 = 0
  | 0, k, _ => rfl
  | f + 1, k, h => by
    rw [tsF, if_pos (h k (by omega) (by omega))]
    exact tsF_mk f (k + 1) fun i h1 h2 => h i (by omega) (by omega)
theorem ouF_mk {base : List Int} {ts : List (Int × List Nd)} : ∀ (f k : Nat), (∀ i, k ≤ i → i < k + f → rm base ts i < 4611686018427387904) → (ouF base ts f k).1 = 0
  | 0, k, _ => rfl
  | f + 1, k, h => by
    rw [ouF, if_pos (by unfold okS; exact decide_eq_true (h k (by omega) (by omega)))]
    exact ouF_mk f (k + 1) fun i h1 h2 => h i (by omega) (by omega)
/-- Other trees and other names. -/
theorem chB_other {nm : ByteArray} {fs fs' : List ByteArray} {N : Int} {base : List Int} {ts ts' : List (Int × List Nd)} (h : (chB nm fs N base ts).1 = 0) (hl : fs'.length = fs.length) (hf : (ftB fs').1 = 0) (hn : ts'.length ≤ 65536)
    (ht : ∀ t ∈ ts', ∃ i : Int, (trB t.1 N fs.length t.2 i).1 = 0) (hs : ∀ o, rsum o ts' ≤ rsum o ts) : (chB nm fs' N base ts').1 = 0 := by
  obtain ⟨-, h1, h2, h3, h4, h5, h6⟩ := chB_ok h
  have hh : (hdS nm fs.length).1 = 0 := by
    rw [chB_eq] at h
    split at h
    · rename_i q
      unfold or3 at q
      by_cases a : (hdS nm fs.length).1 = 0
      · exact a
      · rw [if_neg a] at q; exact absurd q a
    · rename_i q; exact absurd h q
  rw [chB_eq, hl, if_pos, if_pos]
  · refine ouF_mk _ _ fun i _ hi => ?_
    have := ouF_all _ _ h6 i (by omega) (by omega)
    rw [rm_sum] at this ⊢
    have := hs i
    omega
  · refine tsF_mk _ _ fun i _ hi => ?_
    have hi' : i < ts'.length := by omega
    obtain ⟨j, hj⟩ := ht (ts'.getD i (0, [])) (by simp [List.getD, hi'])
    exact trB_at hj _
  · unfold or3
    rw [if_pos hh, if_pos hf]
    unfold ctS
    refine sel_mk _ _ _ ?_
    intro x hx
    simp at hx
    rcases hx with rfl | rfl | rfl
    · exact win_mk h1.1 h1.2
    · simpa using h2
    · simp; omega
/-- Each tree numbered anew. -/
theorem chB_model {nm : ByteArray} {fs : List ByteArray} {N : Int} {base : List Int} {ts : List (Int × List Nd)} (h : (chB nm fs N base ts).1 = 0) : (chB nm fs N base (mdT ts)).1 = 0 ∧ mdE ts = 0 := by
  obtain ⟨-, h1, h2, h3, h4, h5, h6⟩ := chB_ok h
  have hm : ∀ t ∈ ts, ∃ i : Int, (trB t.1 N fs.length t.2 i).1 = 0 := by
    intro t ht
    obtain ⟨i, hi, rfl⟩ := List.getElem_of_mem ht
    have := h5 i hi
    rw [show ts.getD i (0, []) = ts[i] by simp [List.getD, hi]] at this
    exact ⟨_, this⟩
  have hff : (ftB fs).1 = 0 := by
    rw [chB_eq] at h
    split at h
    · rename_i q
      unfold or3 at q
      by_cases a : (hdS nm fs.length).1 = 0
      · rw [if_pos a] at q
        by_cases b : (ftB fs).1 = 0
        · exact b
        · rw [if_neg b] at q; exact absurd q b
      · rw [if_neg a] at q; exact absurd q a
    · rename_i q; exact absurd h q
  refine ⟨chB_other h rfl hff (by unfold mdT; rw [List.length_map]; exact h3) ?_ ?_, ?_⟩
  · intro t ht
    obtain ⟨s, hs, rfl⟩ := List.mem_map.1 ht
    obtain ⟨i, hi⟩ := hm s hs
    exact ⟨i, (trB_cno hi i).1⟩
  · intro o
    refine rsum_map ts fun t ht => ?_
    obtain ⟨i, hi⟩ := hm t ht
    have := trB_cno hi i
    unfold wo1
    simp only
    rw [this.2.2]
    split
    · exact this.2.1
    · exact Nat.le_refl _
  · clear h3 h5 h6 h2 h
    induction ts with
    | nil => rfl
    | cons t ts ih =>
      obtain ⟨i, hi⟩ := hm t (by simp)
      rw [show t = (t.1, t.2) from rfl, mdE, if_pos (trB_ok hi).2.2.1]
      exact ih fun x hx => hm x (List.mem_cons_of_mem _ hx)
/-- In another order, some left out, with other names. -/
theorem chB_chosen {nm : ByteArray} {fs fs' : List ByteArray} {N : Int} {base : List Int} {ts : List (Int × List Nd)} (r : Nat) (out : List Bool) (h : (chB nm fs N base ts).1 = 0) (hl : fs'.length = fs.length) (hf : (ftB fs').1 = 0) (hr : 0 < ts.length → r < ts.length) : (chB nm fs' N base (chT ts r out ts.length)).1 = 0 := by
  obtain ⟨-, h1, h2, h3, h4, h5, h6⟩ := chB_ok h
  by_cases hn : 0 < ts.length
  · refine chB_other h hl hf (Nat.le_trans (chT_len _ _ _ _) h3) ?_ ?_
    · intro t ht
      obtain ⟨i, hi, rfl⟩ := chT_mem ts r out hn _ t ht
      exact ⟨_, h5 i hi⟩
    · intro o
      have := rsum_sub (o := o) (chT_sub ts r out (hr hn) ts.length (Nat.le_refl _))
      rw [List.take_of_length_le (by rw [rot_len ts r (by have := hr hn; omega)]; omega), rot_sum] at this
      exact this
  · have : ts = [] := List.eq_nil_of_length_eq_zero (by omega)
    subst this
    refine chB_other h hl hf (by simp [chT]) (fun t ht => by simp [chT] at ht) fun o => by simp [chT]
end Go.Proofs.YtpogipmamciciaaDoor
set_option linter.unusedVariables false
set_option linter.unusedSimpArgs false
namespace Go.Proofs.YtpogipmamciciaaDoor
/-- A comb's nodes. -/
def cin (i : Nat) : Nd := ⟨2, 0, 0, 4607182418800017408, [], 1, ((2 * i + 1 : Nat) : Int), ((2 * i + 2 : Nat) : Int)⟩
def clf : Nd := ⟨1, 1, 0, 0, [], 0, 0, 0⟩
def cmb : Nat → List Nd
  | 0 => []
  | i + 1 => cmb i ++ [cin i, clf]
def comb (m : Nat) : List Nd := cmb m ++ [clf]
theorem cmb_len : ∀ m, (cmb m).length = 2 * m
  | 0 => rfl
  | m + 1 => by rw [cmb, List.length_append, cmb_len m]; simp; omega
theorem comb_len (m : Nat) : (comb m).length = 2 * m + 1 := by unfold comb; rw [List.length_append, cmb_len]; rfl
theorem cmb_at : ∀ (m j : Nat), j < 2 * m → (cmb m)[j]? = some (if j % 2 = 0 then cin (j / 2) else clf)
  | 0, j, h => by omega
  | m + 1, j, h => by
    rw [cmb]
    by_cases hj : j < 2 * m
    · rw [List.getElem?_append_left (by rw [cmb_len]; exact hj)]
      exact cmb_at m j hj
    · rw [List.getElem?_append_right (by rw [cmb_len]; omega), cmb_len]
      rcases (show j = 2 * m ∨ j = 2 * m + 1 by omega) with rfl | rfl
      · rw [if_pos (by omega), show 2 * m / 2 = m by omega]; simp
      · rw [if_neg (by omega)]; simp
theorem comb_at (m j : Nat) (h : j < 2 * m + 1) : (comb m).getD j nd0 = if j % 2 = 0 ∧ j < 2 * m then cin (j / 2) else clf := by
  unfold comb List.getD
  by_cases hj : j < 2 * m
  · rw [List.getElem?_append_left (by rw [cmb_len]; exact hj), cmb_at m j hj]
    by_cases e : j % 2 = 0
    · rw [if_pos e, if_pos ⟨e, hj⟩]; rfl
    · rw [if_neg e, if_neg (fun q => e q.1)]; rfl
  · rw [List.getElem?_append_right (by rw [cmb_len]; omega), cmb_len, show j - 2 * m = 0 by omega, if_neg (fun q => hj q.2)]
    rfl
theorem comb_rgt (m : Nat) : Rgt (comb m) := by
  refine ⟨by rw [comb_len]; omega, fun j hj => ?_⟩
  rw [comb_len] at hj ⊢
  rw [comb_at m j hj]
  split
  · rename_i q
    unfold rightB
    rw [if_neg (by simp [cin]), if_pos (by simp [cin])]
    have h1 : spl (cin (j / 2)) (2 * m + 1) = true := by
      unfold spl
      rw [decide_eq_true_eq]
      refine ⟨rfl, by show (0 : Int) ≤ 0; omega, by show (0 : Int) < 65536; omega, .inl rfl, ⟨?_, ?_⟩, ⟨?_, ?_⟩⟩
      · show (1 : Int) ≤ ((2 * (j / 2) + 1 : Nat) : Int); omega
      · show ((2 * (j / 2) + 1 : Nat) : Int) < ((2 * m + 1 : Nat) : Int); omega
      · show (1 : Int) ≤ ((2 * (j / 2) + 2 : Nat) : Int); omega
      · show ((2 * (j / 2) + 2 : Nat) : Int) < ((2 * m + 1 : Nat) : Int); omega
    rw [h1]
    show (true && !nanB 4607182418800017408 && decide (([] : List Int).length = 0)) = true
    decide +kernel
  · rfl
theorem comb_K (m i : Nat) (h : i < 2 * m + 1) : (shp (comb m)).K i = decide (i % 2 = 0 ∧ i < 2 * m) := by
  show decide (((comb m).getD i nd0).kd = 2 ∨ ((comb m).getD i nd0).kd = 3) = _
  rw [comb_at m i h]
  split
  · rename_i q; rw [decide_eq_true (show (cin (i / 2)).kd = 2 ∨ (cin (i / 2)).kd = 3 from .inl rfl), decide_eq_true q]
  · rename_i q; rw [decide_eq_false (show ¬ (clf.kd = 2 ∨ clf.kd = 3) by simp [clf]), decide_eq_false q]
theorem comb_kids (m i : Nat) (h : i < 2 * m + 1) (hk : (shp (comb m)).K i = true) : (i % 2 = 0 ∧ i < 2 * m) ∧ (shp (comb m)).A i = i + 1 ∧ (shp (comb m)).B i = i + 2 := by
  rw [comb_K m i h] at hk
  have q := of_decide_eq_true hk
  refine ⟨q, ?_, ?_⟩
  · show ((comb m).getD i nd0).lf.toNat = _
    rw [comb_at m i h, if_pos q]
    show ((2 * (i / 2) + 1 : Nat) : Int).toNat = i + 1
    omega
  · show ((comb m).getD i nd0).rt.toNat = _
    rw [comb_at m i h, if_pos q]
    show ((2 * (i / 2) + 2 : Nat) : Int).toNat = i + 2
    omega
theorem comb_tr (m : Nat) : Tr (shp (comb m)) (comb m).length := by
  rw [comb_len]
  refine ⟨⟨by omega, fun i hi hk => ?_⟩, fun i hi hk => ?_, fun j h0 hj => ?_, ?_⟩
  · obtain ⟨q, e1, e2⟩ := comb_kids m i hi hk
    rw [e1, e2]; omega
  · obtain ⟨q, e1, e2⟩ := comb_kids m i hi hk
    rw [e1, e2]; omega
  · have hc : ∀ k, k ≤ 2 * m + 1 → cnt (shp (comb m)) j k = if 2 * ((j - 1) / 2) < k then 1 else 0 := by
      intro k
      induction k with
      | zero => intro _; rfl
      | succ k ih =>
        intro hk
        rw [cnt, ih (by omega)]
        by_cases q : k % 2 = 0 ∧ k < 2 * m
        · have hK : (shp (comb m)).K k = true := by rw [comb_K m _ (by omega)]; exact decide_eq_true q
          obtain ⟨-, e1, e2⟩ := comb_kids m k (by omega) hK
          rw [e1, e2, hK]
          simp only [true_and]
          split <;> split <;> split <;> split <;> omega
        · have hK : (shp (comb m)).K k = false := by rw [comb_K m _ (by omega)]; exact decide_eq_false q
          rw [hK]
          simp only [Bool.false_eq_true, false_and, if_false]
          split <;> split <;> omega
    rw [hc _ (Nat.le_refl _), if_pos (by omega)]
  · have : ∀ i, i ≤ m → Rch (shp (comb m)) (2 * i) := by
      intro i
      induction i with
      | zero => exact fun _ => .zero
      | succ i ih =>
        intro h
        have hk : (shp (comb m)).K (2 * i) = true := by rw [comb_K m _ (by omega)]; exact decide_eq_true (by omega)
        have := Rch.right (ih (by omega)) hk
        rw [(comb_kids m _ (by omega) hk).2.2] at this
        exact this
    intro j hj
    by_cases e : j % 2 = 0
    · have := this (j / 2) (by omega)
      rw [show 2 * (j / 2) = j by omega] at this
      exact this
    · have hk : (shp (comb m)).K (j - 1) = true := by rw [comb_K m _ (by omega)]; exact decide_eq_true (by omega)
      have h1 := this ((j - 1) / 2) (by omega)
      rw [show 2 * ((j - 1) / 2) = j - 1 by omega] at h1
      have := Rch.left h1 hk
      rw [(comb_kids m _ (by omega) hk).2.1, show j - 1 + 1 = j by omega] at this
      exact this
theorem comb_shE (m : Nat) : shE (comb m) = 0 := shE_of (comb_rgt m) (comb_tr m)
end Go.Proofs.YtpogipmamciciaaDoor
set_option linter.unusedVariables false
set_option linter.unusedSimpArgs false
namespace Go.Proofs.YtpogipmamciciaaDoor
open Go.RowKit Go.Shelf
/-- The names that are another one each. -/
def nby (i j : Nat) : Nat := 97 + i / 20 ^ j % 20
def nmL (i : Nat) : List UInt8 := [102, UInt8.ofNat (nby i 0), UInt8.ofNat (nby i 1), UInt8.ofNat (nby i 2), UInt8.ofNat (nby i 3)]
def nmB (i : Nat) : ByteArray := ⟨(nmL i).toArray⟩
def nms (F : Nat) : List ByteArray := (List.range F).map nmB
theorem nby_lt (i j : Nat) : 97 ≤ nby i j ∧ nby i j ≤ 116 := by
  unfold nby
  have := Nat.mod_lt (i / 20 ^ j) (show 0 < 20 by omega)
  omega
theorem nby_nat (i j : Nat) : (UInt8.ofNat (nby i j)).toNat = nby i j := by
  have := nby_lt i j
  rw [UInt8.toNat_ofNat']
  omega
theorem nms_len (F : Nat) : (nms F).length = F := by simp [nms]
theorem nms_at {F k : Nat} (h : k < F) : (nms F).getD k ByteArray.empty = nmB k := by simp [nms, List.getD, h]
theorem nms_next (F : Nat) : nms (F + 1) = nms F ++ [nmB F] := by simp [nms, List.range_succ]
theorem nm_name (i : Nat) : nameB (nmB i) = true := by
  unfold nameB
  have h5 : (nmB i).size = 5 := rfl
  rw [decide_eq_true_eq, h5]
  refine ⟨by omega, by omega, fun j hj => ?_⟩
  have hb : bt (nmB i) j = ((nmL i)[j]'(by simp [nmL]; omega)).toNat := by
    unfold bt
    rw [dif_pos (by rw [h5]; exact hj)]
    rfl
  rw [hb]
  have q := fun k => nby_lt i k
  have z : ∀ n, 97 ≤ n → n ≤ 116 → nmc n = true := by
    intro n h1 h2
    unfold nmc
    simp [h1, show n ≤ 122 by omega]
  match j, hj with
  | 0, _ => rfl
  | 1, _ => exact (congrArg nmc (nby_nat i 0)).trans (z _ (q 0).1 (q 0).2)
  | 2, _ => exact (congrArg nmc (nby_nat i 1)).trans (z _ (q 1).1 (q 1).2)
  | 3, _ => exact (congrArg nmc (nby_nat i 2)).trans (z _ (q 2).1 (q 2).2)
  | 4, _ => exact (congrArg nmc (nby_nat i 3)).trans (z _ (q 3).1 (q 3).2)
theorem nm_inj {i j : Nat} (hi : i < 160000) (hj : j < 160000) (h : nmB i = nmB j) : i = j := by
  have e : nmL i = nmL j := by
    have := congrArg (fun b : ByteArray => b.data.toList) h
    simpa [nmB] using this
  unfold nmL at e
  simp only [List.cons.injEq, and_true, true_and] at e
  obtain ⟨e0, e1, e2, e3⟩ := e
  have f0 := congrArg UInt8.toNat e0
  have f1 := congrArg UInt8.toNat e1
  have f2 := congrArg UInt8.toNat e2
  have f3 := congrArg UInt8.toNat e3
  rw [nby_nat, nby_nat] at f0 f1 f2 f3
  unfold nby at f0 f1 f2 f3
  simp at f0 f1 f2 f3
  omega
theorem sn_mem {fs : List ByteArray} : ∀ (k : Nat) (x : ByteArray), x ∈ sn fs k → ∃ j, j < k ∧ x = fs.getD j ByteArray.empty
  | 0, x, h => by simp [sn] at h
  | k + 1, x, h => by
    rw [sn] at h
    rcases List.mem_cons.1 h with h | h
    · exact ⟨k, by omega, h⟩
    · obtain ⟨j, hj, e⟩ := sn_mem k x h
      exact ⟨j, by omega, e⟩
theorem ftF_nms {F : Nat} (hF : F ≤ 160000) : ∀ (f k : Nat), k + f = F → (ftF (nms F) f k).1 = 0
  | 0, k, _ => rfl
  | f + 1, k, h => by
    rw [ftF, nms_at (by omega), if_pos (nm_name k), if_neg]
    · exact ftF_nms hF f (k + 1) (by omega)
    · intro q
      unfold inSet at q
      obtain ⟨x, hx, e⟩ := List.any_eq_true.1 q
      obtain ⟨j, hj, rfl⟩ := sn_mem k x hx
      rw [nms_at (by omega)] at e
      have := nm_inj (by omega) (by omega) (of_decide_eq_true e)
      omega
theorem ft_nms {F : Nat} (hF : F ≤ 160000) : (ftB (nms F)).1 = 0 := by
  unfold ftB
  exact ftF_nms hF _ _ (by rw [nms_len]; omega)
end Go.Proofs.YtpogipmamciciaaDoor
set_option linter.unusedVariables false
set_option linter.unusedSimpArgs false
namespace Go.Proofs.YtpogipmamciciaaDoor
abbrev nm1 : ByteArray := ⟨#[109]⟩
theorem nameB_m : nameB nm1 = true := by decide +kernel
theorem chB_mk {nm : ByteArray} {fs : List ByteArray} {N : Int} {base : List Int} {ts : List (Int × List Nd)} (h1 : nameB nm = true) (hF : 1 ≤ fs.length ∧ fs.length ≤ 65536) (hf : (ftB fs).1 = 0) (hN : 1 ≤ N ∧ N ≤ 64) (hb : (base.length : Int) = N) (hn : ts.length ≤ 65536)
    (ht : ∀ t ∈ ts, ∃ i : Int, (trB t.1 N fs.length t.2 i).1 = 0) (hr : ∀ o : Nat, o < base.length → rm base ts o < 4611686018427387904) : (chB nm fs N base ts).1 = 0 := by
  have hh : (hdS nm fs.length).1 = 0 := by
    unfold hdS
    refine sel_mk _ _ _ ?_
    intro x hx
    simp at hx
    rcases hx with rfl | rfl
    · exact h1
    · exact win_mk (by omega) (by omega)
  rw [chB_eq, if_pos, if_pos]
  · exact ouF_mk _ _ fun i _ hi => hr i (by omega)
  · refine tsF_mk _ _ fun i _ hi => ?_
    have hi' : i < ts.length := by omega
    obtain ⟨j, hj⟩ := ht (ts.getD i (0, [])) (by simp [List.getD, hi'])
    exact trB_at hj _
  · unfold or3
    rw [if_pos hh, if_pos hf]
    unfold ctS
    refine sel_mk _ _ _ ?_
    intro x hx
    simp at hx
    rcases hx with rfl | rfl | rfl
    · exact win_mk hN.1 hN.2
    · simpa using hb
    · simp; omega
theorem tr5 (F : Int) : (trB 0 1 F [lf5] 0).1 = 0 := trB_mk 0 (by omega) (by simp) (by decide +kernel) (by
  intro i hi hk
  have : i = 0 := by simpa using hi
  subst this
  rcases hk with hk | hk <;> exact absurd hk (by decide))
theorem tr5N (N F : Int) (hN : 1 ≤ N) : (trB 0 N F [lf5] 0).1 = 0 := trB_mk 0 (by omega) (by simp) (by decide +kernel) (by
  intro i hi hk
  have : i = 0 := by simpa using hi
  subst this
  rcases hk with hk | hk <;> exact absurd hk (by decide))
theorem ft_small : (ftB sfs).1 = 0 := by decide +kernel
theorem rm_small (base : List Int) (o : Nat) : rm base sts o ≤ (base.getD o 0).natAbs + 5 := by
  rw [rm_sum]
  show _ + (wo1 _ _ + 0) ≤ _
  unfold wo1
  rw [lg_small]
  split <;> omega
/-- So many features, and one more. -/
theorem lim_features : (chB nm1 (nms 65536) 1 [0] sts).1 = 0 := by
  refine chB_mk nameB_m (by rw [nms_len]; omega) (ft_nms (by omega)) (by omega) rfl (by simp) (fun t ht => ?_) (fun o ho => ?_)
  · have : t = (0, [lf5]) := by simpa using ht
    subst this
    exact ⟨0, tr5 _⟩
  · have := rm_small [0] o
    have : o = 0 := by simpa using ho
    subst this
    exact Nat.lt_of_le_of_lt (rm_small [0] 0) (by decide)
theorem lim_features2 : (chB nm1 (nms 65537) 1 [0] sts).1 = 2 := by
  rw [chB_eq, if_neg, nms_len]
  · rfl
  · rw [nms_len]
    intro h
    have : (or3 (hdS nm1 65537) (ftB (nms 65537)) (ctS 1 1 1)).1 = 2 := rfl
    exact absurd (this.symm.trans h) (by decide)
end Go.Proofs.YtpogipmamciciaaDoor
set_option linter.unusedVariables false
set_option linter.unusedSimpArgs false
namespace Go.Proofs.YtpogipmamciciaaDoor
theorem hd_small : (hdS nm1 sfs.length).1 = 0 := by decide +kernel
theorem rsum_rep (o : Int) (t : Int × List Nd) : ∀ n, rsum o (List.replicate n t) = n * wo1 o t
  | 0 => by simp [rsum]
  | n + 1 => by rw [List.replicate_succ, rsum, rsum_rep o t n, Nat.add_mul]; omega
/-- So many trees, and one more. -/
theorem lim_trees : (chB nm1 sfs 1 [0] (List.replicate 65536 (0, [lf5]))).1 = 0 := by
  refine chB_mk nameB_m (by decide) ft_small (by omega) rfl (by rw [List.length_replicate]; omega) (fun t ht => ?_) (fun o ho => ?_)
  · obtain ⟨-, rfl⟩ := List.mem_replicate.1 ht
    exact ⟨0, tr5 _⟩
  · have : o = 0 := by simpa using ho
    subst this
    rw [rm_sum, rsum_rep]
    unfold wo1
    rw [lg_small]
    split <;> simp
theorem lim_trees2 : (chB nm1 sfs 1 [0] (List.replicate 65537 (0, [lf5]))).1 = 7 := by
  have h : (or3 (hdS nm1 sfs.length) (ftB sfs) (ctS 1 1 (List.replicate 65537 ((0 : Int), [lf5])).length)).1 = 7 := by
    rw [List.length_replicate]
    unfold or3
    rw [if_pos hd_small, if_pos ft_small]
    decide +kernel
  rw [chB_eq, if_neg]
  · exact h
  · intro q
    rw [show ([0] : List Int).length = 1 from rfl, h] at q
    cases q
theorem lg_comb (m : Nat) : lg (comb m) ≤ 1 := by
  refine lg_max fun i hi hk => ?_
  rw [comb_len] at hi
  rw [comb_at m i hi] at hk ⊢
  split
  · rename_i q
    rw [if_pos q] at hk
    cases hk
  · exact Nat.le_refl _
theorem tr_comb (m : Nat) (hm : m ≤ 4095) : (trB 0 1 1 (comb m) 0).1 = 0 := by
  refine trB_mk 0 (by omega) (by rw [comb_len]; omega) (comb_shE m) ?_
  intro i hi hk
  rw [comb_len] at hi
  rw [comb_at m i hi]
  split <;> exact ⟨Int.le_refl 0, Int.le_refl 0⟩
/-- So many leaves, and one more, and one node more. -/
theorem lim_leaves : (chB nm1 sfs 1 [0] [(0, comb 4095)]).1 = 0 := by
  refine chB_mk nameB_m (by decide) ft_small (by omega) rfl (by simp) (fun t ht => ?_) (fun o ho => ?_)
  · have : t = (0, comb 4095) := by simpa using ht
    subst this
    exact ⟨0, tr_comb 4095 (by omega)⟩
  · have : o = 0 := by simpa using ho
    subst this
    have hl := lg_comb 4095
    generalize comb 4095 = C at *
    rw [rm_sum, show (([0] : List Int).getD 0 0).natAbs = 0 from rfl, rsum, rsum, wo1]
    simp only
    split <;> omega
theorem lim_nodes2 (L : List Nd) (h : 8191 < L.length) (hl : L.length ≤ 65536) : (chB nm1 sfs 1 [0] [(0, L)]).1 = 12 := by
  have h1 : (or3 (hdS nm1 sfs.length) (ftB sfs) (ctS 1 ([0] : List Int).length [((0 : Int), L)].length)).1 = 0 := by
    unfold or3
    rw [if_pos hd_small, if_pos ft_small, show [((0 : Int), L)].length = 1 from rfl]
    decide +kernel
  have h2 : (trB 0 1 (sfs.length : Int) L ((0 : Nat) : Int)).1 = 12 := by
    have hw : winB (L.length : Int) 1 8191 = false := by unfold winB; rw [decide_eq_false (show ¬ ((L.length : Int) ≤ 8191) by omega), Bool.and_false]
    have hs : (sel [(11, winB 0 0 (1 - 1)), (12, winB (L.length : Int) 1 8191)] ((0 : Nat) : Int) (-1)).1 = 12 := by
      rw [hw]
      decide +kernel
    unfold trB
    rw [if_neg (by rw [hs]; decide)]
    exact hs
  have h3 : (tsB 1 (sfs.length : Int) [((0 : Int), L)]).1 = 12 := by
    show (tsF 1 _ [((0 : Int), L)] 1 0).1 = 12
    rw [tsF, if_neg]
    · exact h2
    · intro q; exact absurd (h2.symm.trans q) (by decide)
  rw [chB_eq, if_pos h1, if_neg (by rw [h3]; decide)]
  exact h3
/-- So many outputs, and one more. -/
theorem lim_outputs : (chB nm1 sfs 64 (List.replicate 64 0) sts).1 = 0 := by
  refine chB_mk nameB_m (by decide) ft_small (by omega) (by rw [List.length_replicate]; rfl) (by simp) (fun t ht => ?_) (fun o ho => ?_)
  · have : t = (0, [lf5]) := by simpa using ht
    subst this
    exact ⟨0, tr5N 64 _ (by omega)⟩
  · refine Nat.lt_of_le_of_lt (rm_small _ o) ?_
    rw [List.length_replicate] at ho
    rw [show (List.replicate 64 (0 : Int)).getD o 0 = 0 by rw [List.getD, List.getElem?_replicate, if_pos ho]; rfl]
    decide
theorem lim_outputs2 (base : List Int) : (chB nm1 sfs 65 base sts).1 = 5 := by
  have h : (or3 (hdS nm1 sfs.length) (ftB sfs) (ctS 65 base.length sts.length)).1 = 5 := by
    unfold or3
    rw [if_pos hd_small, if_pos ft_small]
    unfold ctS
    rw [sel, if_neg (by decide +kernel)]
  rw [chB_eq, if_neg (by rw [h]; decide)]
  exact h
/-- A room as great as may be, and greater by one. -/
theorem lim_sum : (chB nm1 sfs 1 [-4611686018427387898] sts).1 = 0 := by decide +kernel
theorem lim_sum2 : (chB nm1 sfs 1 [4611686018427387899] sts).1 = 31 := by decide +kernel
end Go.Proofs.YtpogipmamciciaaDoor
set_option linter.unusedVariables false
set_option linter.unusedSimpArgs false
namespace Go.Proofs.YtpogipmamciciaaDoor
open Go.RowKit Go.Shelf
def nbk (i k j : Nat) : Nat := if j < k then nby i (j - 1) else 97
def nmA (i k : Nat) : Array Value := #[.int .u8 102, .int .u8 (nbk i k 1 : Nat), .int .u8 (nbk i k 2 : Nat), .int .u8 (nbk i k 3 : Nat), .int .u8 (nbk i k 4 : Nat)]
theorem nm_num {x : Nat} (hx : x ≤ 100000) : IntKind.i64.wrap (97 + ((x : Int).tmod 20)) = ((97 + x % 20 : Nat) : Int) ∧ IntKind.u8.wrap ((97 + x % 20 : Nat) : Int) = ((97 + x % 20 : Nat) : Int) ∧ (x : Int).tdiv 20 = ((x / 20 : Nat) : Int) := by
  have h1 : (x : Int).tmod 20 = ((x % 20 : Nat) : Int) := by rw [Int.tmod_eq_emod_of_nonneg (by omega)]; omega
  have h2 : (x : Int).tdiv 20 = ((x / 20 : Nat) : Int) := by rw [Int.tdiv_eq_ediv_of_nonneg (by omega)]; omega
  refine ⟨?_, ?_, h2⟩
  · rw [h1, IntWalk.i64_left, IntWalk.wrap64_in _ (by omega)]; omega
  · rw [IntKind.wrap_u8]; omega
set_option maxRecDepth 100000 in
set_option maxHeartbeats 2000000 in
theorem names_any (F : Nat) (w : World) (hF : F ≤ 100000) : Calls Tryd.prog 5 #[.int .i64 (F : Nat)] w fun e w' => ∃ a c, e = .returned (.slice a F c) ∧ OwnS w.heap.size w' (.slice a F c) (nms F) ∧ Keep w w' := by
  go_enter Tryd.func5, Tryd.ntmps5
  go_wp2_with fail
  go_loopw [3, 4] (fun v iv wr => ∃ i : Nat, i ≤ F ∧ iv = .int .i64 i ∧ OwnS w.heap.size wr v (nms i) ∧ Keep w wr) (fun _ iv _ => F - (intOf iv).toNat)
  case atStart => exact ⟨0, by omega, rfl, OwnS.nil _ _, Keep.refl w⟩
  case round =>
    obtain ⟨i, hi, rfl, hO, kw⟩ := hrel
    by_cases hil : i < F
    · have hic : (i : Int) < (F : Int) := by omega
      obtain ⟨B, hB⟩ : ∃ B, wr.heap.size = B := ⟨_, rfl⟩
      go_wp2_with fail
      go_loopw [6, 7] (fun xv kv wx => ∃ k : Nat, (1 ≤ k ∧ k ≤ 5) ∧ kv = .int .i64 k ∧ xv = .int .i64 ((i / 20 ^ (k - 1) : Nat) : Int) ∧ wx.heap[B]? = some (.cells (nmA i k) 5 (0, 0)) ∧ Keep wr wx) (fun _ kv _ => 5 - (intOf kv).toNat)
      case atStart => exact ⟨1, by omega, rfl, by simp, by rw [← hB]; exact heap_alloc_new wr _, (Keep.refl wr).alloc _⟩
      case round =>
        obtain ⟨k, hk, rfl, rfl, hb, kx⟩ := hrel
        by_cases hkl : k < 5
        · have hkc : (k : Int) < 5 := by omega
          have hx : i / 20 ^ (k - 1) ≤ 100000 := Nat.le_trans (Nat.div_le_self _ _) (by omega)
          have HX : Hid (i / 20 ^ (k - 1) / 20 = i / 20 ^ (k + 1 - 1)) := by
            show _ = _
            rw [Nat.div_div_eq_div_mul, ← Nat.pow_succ, show (k - 1).succ = k + 1 - 1 by omega]
          have HS : Hid (∀ v : Value, v = .int .u8 ((97 + i / 20 ^ (k - 1) % 20 : Nat) : Int) → (nmA i k).setIfInBounds k v = nmA i (k + 1)) := by
            intro v hv
            subst hv
            rcases (show k = 1 ∨ k = 2 ∨ k = 3 ∨ k = 4 by omega) with rfl | rfl | rfl | rfl <;> rfl
          obtain ⟨y, hcl⟩ : ∃ y, wr.cell? ⟨B, k, none⟩ = some y := by
            rw [cell_of_row _ _ k _ 5 (0, 0) hb]
            rcases (show k = 1 ∨ k = 2 ∨ k = 3 ∨ k = 4 by omega) with rfl | rfl | rfl | rfl <;> exact ⟨_, rfl⟩
          have hfk := frozen_of_row _ _ k _ 5 hb
          generalize i / 20 ^ (k - 1) = x at *
          obtain ⟨n1, n2, n3⟩ := nm_num hx
          go_wp2_with fail
          refine ⟨⟨k + 1, by omega, by go_num, ?_, ?_, ?_⟩, by simp [intOf]; omega⟩
          · rw [← HX.out]; rfl
          · rw [heap_setCell_same _ _ _ _ 5 _ hb, HS.out _ (by congr 1)]
          · exact kx.setCell (by show _ ≤ B; omega) _
        · have hkc : ¬ (k : Int) < 5 := by omega
          obtain rfl : k = 5 := by omega
          have hcv : ∀ c, (convert 42 9 (.slice (some ⟨B, 0, none⟩) 5 c)).run Tryd.prog wr = .ok (.string (nmB i)) wr := fun c => by
            refine run_convert_bytes_back wr 42 9 5 ⟨B, 0, none⟩ c (nmL i) Tryd.underlying42 Tryd.underlying5 Tryd.underlying9 (fun j hj => ?_)
            rw [show Addr.add ⟨B, 0, none⟩ j = ⟨B, j, none⟩ by unfold Addr.add; split <;> simp_all, cell_of_row _ _ j _ 5 (0, 0) hb]
            have q := fun j => nby_nat i j
            have hj5 : j < 5 := hj
            match j, hj5 with
            | 0, _ => rfl
            | 1, _ => simp [nmA, nmL, nbk, q]
            | 2, _ => simp [nmA, nmL, nbk, q]
            | 3, _ => simp [nmA, nmL, nbk, q]
            | 4, _ => simp [nmA, nmL, nbk, q]
          have hOx := hO.keep kx
          have hBw := kw.le
          have hBx := kx.le
          have hKl : (nms i).length + 1 ≤ 8796093022208 := by rw [nms_len]; omega
          go_wp2_with (first | rw [hcv] | (at_builtin; (refine wpList_appS w.heap.size _ rfl _ _ rfl (nms i) (nmB i) u3 ?_ (hOx.keep ((Keep.refl wr).alloc _)) (Nat.le_trans hBw (Nat.le_trans hBx ((Keep.refl wr).alloc _).le)) ⟨wr.heap.size, 0, none⟩ ?_ (by rw [cell_of_row _ _ 0 _ 9 (0, 0) (heap_alloc_new wr _)]; rfl) hKl ?_; rotate_left 2; intro v5 w5 hO5 g5)))
          · have k5 : Keep w w5 := Below.grown ((kw.trans kx).alloc _) g5 (Nat.le_trans hBw (Nat.le_trans hBx ((Keep.refl wr).alloc _).le)) (fun b hb => (hO.block hb).1)
            rw [← nms_next] at hO5
            exact ⟨⟨i + 1, by omega, by go_num, hO5, k5⟩, by simp [intOf]; omega⟩
          all_goals rfl
    · have hic : ¬ (i : Int) < (F : Int) := by omega
      obtain rfl : i = F := by omega
      obtain ⟨a, c, rfl, hc, hr⟩ := hO.shape
      rw [nms_len] at *
      go_wp2_with fail
      go_ret
      exact ⟨_, _, rfl, hO, kw⟩
end Go.Proofs.YtpogipmamciciaaDoor
