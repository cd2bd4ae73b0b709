import Derived.Test.YtinjikoocegooaaGreatDoorProg
import Derived.Test.YtinjikoocegooaaGreatDoorV2
import Derived.Test.YtinjikoocegooaaGreatDoorYX4
import Derived.WalkKit
import Derived.WalkSpells
import Derived.WalkLawsBesides
import Derived.Deep.Draws
import Derived.Deep.QuietTactic
import Derived.BigQuiet
import Derived.Laws.Externs
import Derived.Laws.CopyOwn
import Derived.Shelf.Abstract
import Derived.Deep.RegionLaw
import Derived.BigRegion
import Derived.Deep.RegionHeld3
import Derived.RangeFuncBox
import Derived.RangeFuncLeaves
import Derived.RangeFuncCalls
import Derived.RangeFuncRecord
import Derived.Below
import Derived.OwnWalkIn
import Derived.TacticsInMore
import Derived.LoopNIn
import Derived.LoopIn
import Derived.Sort.LoopGhostIn
import Derived.Deep.RegionWith
import Derived.Stop.RegionWithIn
import Derived.Laws.MathBits
import Derived.Maps.OwnSet
import Derived.StringKeys
import Derived.RegionTactic
import Derived.Orders
import Derived.OrdersIn
import Derived.RegionIn
import Ieee.Arith
import Derived.Laws.StructEq
set_option linter.unusedVariables false
set_option linter.unusedSimpArgs false
namespace Go.Proofs.YtinjikoocegooaaGreatDoor
open Go.RowKit Go.Shelf
theorem sel_all : ∀ (l : List (Int × Bool)) (t n : Int), (sel l t n).1 = 0 → (∀ x ∈ l, x.1 ≠ 0) → ∀ x ∈ l, x.2 = true
  | [], t, n, _, _, x, hx => by simp at hx
  | (r, b) :: l, t, n, h, hr, x, hx => by
    rw [sel] at h
    split at h
    · rename_i hb
      rcases List.mem_cons.1 hx with rfl | hx
      · exact hb
      · exact sel_all l t n h (fun y hy => hr y (List.mem_cons_of_mem _ hy)) x hx
    · exact absurd h (hr (r, b) (by simp))
theorem tnF_all {L : List Nd} {F t : Int} : ∀ (f k : Nat), (tnF L F t f k).1 = 0 → ∀ i, k ≤ i → i < k + f → (sel (ndS (L.getD i nd0) F (L.length : Int)) t (i : Int)).1 = 0
  | 0, k, _, i, h1, h2 => by omega
  | f + 1, k, h, i, h1, h2 => by
    rw [tnF] at h
    split at h
    · rename_i hs
      by_cases e : i = k
      · rw [e]; exact hs
      · exact tnF_all f (k + 1) h i (by omega) (by omega)
    · rename_i hs; exact absurd h hs
theorem tsF_all {N F : Int} {ts : List (Int × List Nd)} : ∀ (f k : Nat), (tsF N F ts f k).1 = 0 → ∀ i, k ≤ i → i < k + f → (trB (ts.getD i (0, [])).1 N F (ts.getD i (0, [])).2 (i : Int)).1 = 0
  | 0, k, _, i, h1, h2 => by omega
  | f + 1, k, h, i, h1, h2 => by
    rw [tsF] at h
    split at h
    · rename_i hs
      by_cases e : i = k
      · rw [e]; exact hs
      · exact tsF_all f (k + 1) h i (by omega) (by omega)
    · rename_i hs; exact absurd h hs
/-- What a right tree is. -/
theorem trB_ok {out N F : Int} {L : List Nd} {t : Int} (h : (trB out N F L t).1 = 0) : (0 ≤ out ∧ out ≤ N - 1) ∧ (1 ≤ L.length ∧ L.length ≤ 8191) ∧ shE L = 0 ∧ ∀ i, i < L.length → ((L.getD i nd0).kd = 2 ∨ (L.getD i nd0).kd = 3) → 0 ≤ (L.getD i nd0).ft ∧ (L.getD i nd0).ft ≤ F - 1 := by
  unfold trB at h
  split at h
  · rename_i h1
    split at h
    · rename_i h2
      have a := sel_all _ _ _ h1 (by intro x hx; simp at hx; rcases hx with rfl | rfl <;> simp)
      have a1 := win_ok (a (11, winB out 0 (N - 1)) (by simp))
      have a2 := win_ok (a (12, winB (L.length : Int) 1 8191) (by simp))
      have b := sel_all _ _ _ h (by intro x hx; simp at hx; rcases hx with rfl; simp) (20, shE L == 0) (by simp)
      refine ⟨a1, ⟨by omega, by omega⟩, by simpa using b, fun i hi hk => ?_⟩
      have c := tnF_all _ _ h2 i (by omega) (by omega)
      have d := sel_all _ _ _ c (ndS_ne _ _ _) (15, q15 (L.getD i nd0) F) (by simp [ndS])
      unfold q15 at d
      have e : innB (L.getD i nd0) = true := by unfold innB kdB; rcases hk with hk | hk <;> rw [hk] <;> rfl
      rw [e] at d
      exact win_ok (by simpa using d)
    · rename_i h2; exact absurd h h2
  · rename_i h1; exact absurd h h1
theorem chB_ok {nm : ByteArray} {fs : List ByteArray} {N : Int} {base : List Int} {ts : List (Int × List Nd)} (h : (chB nm fs N base ts).1 = 0) : chB nm fs N base ts = (0, 0, 0) ∧ (1 ≤ N ∧ N ≤ 64) ∧ (base.length : Int) = N ∧ ts.length ≤ 65536 ∧ (1 ≤ fs.length ∧ fs.length ≤ 65536) ∧ (∀ i, i < ts.length → (trB (ts.getD i (0, [])).1 N fs.length (ts.getD i (0, [])).2 (i : Int)).1 = 0) ∧ (ouB base ts).1 = 0 := by
  rw [chB_eq] at h ⊢
  split at h
  · rename_i h1
    rw [if_pos h1]
    split at h
    · rename_i h2
      rw [if_pos h2]
      have hc := ct_ok (or3_zero h1).2
      have hw := win_ok hc.1
      have hh : (hdS nm fs.length).1 = 0 := by
        unfold or3 at h1
        by_cases a : (hdS nm fs.length).1 = 0
        · exact a
        · rw [if_neg a] at h1; exact absurd h1 a
      have hf := win_ok (hd_ok hh).2
      exact ⟨ouF_zero _ _ h, hw, hc.2.1, hc.2.2, ⟨by omega, by omega⟩, fun i hi => tsF_all _ _ h2 i (by omega) (by omega), h⟩
    · rename_i h2; exact absurd h h2
  · rename_i h1; exact absurd h h1
theorem shI_zero {L : List Nd} (h : shE L = 0) : shI L = 0 := by
  unfold shE at h
  unfold shI
  split at h
  · cases h
  · rename_i h0
    rw [if_neg h0]
    cases hb : badF L L.length 0 with
    | some i => rw [hb] at h; cases h
    | none =>
      rw [hb] at h
      simp only at h ⊢
      split at h
      · assumption
      · cases h
theorem woE_zero {L : List Nd} {out N : Int} {m : Nat} {t : Int} (h : (trB out N (m : Int) L t).1 = 0) : woE L out N m = 0 := by
  obtain ⟨h1, h2, h3, h4⟩ := trB_ok h
  unfold woE
  rw [if_pos h3, if_neg (by omega), if_neg]
  rw [lackB_no]
  · simp
  · intro k hk hq
    have := h4 k hk hq.1
    omega
theorem scF_ok {N : Int} {xs : List Nat} : ∀ (ts : List (Int × List Nd)) (s : List Int), (∀ x ∈ ts, woE x.2 x.1 N xs.length = 0) → (scF N xs ts s).2 = 0 ∧ (scF N xs ts s).1.length = s.length
  | [], s, _ => ⟨rfl, rfl⟩
  | t :: ts, s, h => by
    rw [scF, if_pos (h t (by simp))]
    have := scF_ok ts (s.set t.1.toNat (wrap64 (s.getD t.1.toNat 0 + woV t.2 t.1 N xs))) (fun x hx => h x (List.mem_cons_of_mem _ hx))
    exact ⟨this.1, by rw [this.2, List.length_set]⟩
theorem score_ok {nm : ByteArray} {fs : List ByteArray} {N : Int} {base : List Int} {ts : List (Int × List Nd)} {xs : List Nat} (h : (chB nm fs N base ts).1 = 0) : if xs.length ≠ fs.length then (scS fs.length N base ts xs).2 = 72 else (scS fs.length N base ts xs).2 = 0 ∧ ((scS fs.length N base ts xs).1.length : Int) = N := by
  obtain ⟨-, h1, h2, h3, h4, h5, -⟩ := chB_ok h
  have e0 : ¬ (N < 1 ∨ (base.length : Int) ≠ N) := by omega
  by_cases hx : xs.length ≠ fs.length
  · rw [if_pos hx]; unfold scS; rw [if_neg e0, if_pos hx]
  · rw [if_neg hx]; unfold scS; rw [if_neg e0, if_neg hx]
    have hl : xs.length = fs.length := by omega
    have := scF_ok (N := N) (xs := xs) ts base (fun x hx => by
      obtain ⟨i, hi, rfl⟩ := List.getElem_of_mem hx
      have h6 := h5 i hi
      rw [show ts.getD i (0, []) = ts[i] from by simp [List.getD, hi]] at h6
      rw [hl]; exact woE_zero h6)
    exact ⟨this.1, by rw [this.2]; exact h2⟩
end Go.Proofs.YtinjikoocegooaaGreatDoor
set_option linter.unusedVariables false
set_option linter.unusedSimpArgs false
namespace Go.Proofs.YtinjikoocegooaaGreatDoor
open Go.RowKit Go.Shelf
theorem lgF_mono {L : List Nd} : ∀ (f k m : Nat), m ≤ lgF L f k m
  | 0, k, m => Nat.le_refl _
  | f + 1, k, m => by
    rw [lgF]
    refine Nat.le_trans ?_ (lgF_mono f (k + 1) _)
    split
    · rename_i h; omega
    · omega
theorem lgF_ge {L : List Nd} : ∀ (f k m i : Nat), k ≤ i → i < k + f → (L.getD i nd0).kd = 1 → (L.getD i nd0).vl.natAbs ≤ lgF L f k m
  | 0, k, m, i, h1, h2, _ => by omega
  | f + 1, k, m, i, h1, h2, h3 => by
    rw [lgF]
    by_cases e : i = k
    · subst e
      refine Nat.le_trans ?_ (lgF_mono f (i + 1) _)
      split
      · omega
      · rename_i h
        have hk : kdB (L.getD i nd0) 1 = true := by unfold kdB; rw [h3]; rfl
        have h4 : ¬ m < (L.getD i nd0).vl.natAbs := fun q => h ⟨hk, q⟩
        omega
    · exact lgF_ge f (k + 1) _ i (by omega) (by omega) h3
/-- The leaf's value is no greater than the greatest. -/
theorem lf_le {L : List Nd} {xs : List Nat} (h : shE L = 0) : (L.getD (endN L xs) nd0).vl.natAbs ≤ lg L := by
  obtain ⟨l, -, h2, h3, -⟩ := way_last (xs := xs) h
  refine lgF_ge _ _ _ _ (by omega) (by omega) ?_
  have hr := (shE_rgt h).2 _ h3
  have hk : ¬ ((L.getD (endN L xs) nd0).kd = 2 ∨ (L.getD (endN L xs) nd0).kd = 3) := by
    have := h2
    simp only [shp] at this
    exact of_decide_eq_false this
  unfold rightB at hr
  by_cases h1 : (L.getD (endN L xs) nd0).kd = 1
  · exact h1
  · rw [if_neg h1, if_neg (fun q => hk (.inl q)), if_neg (fun q => hk (.inr q))] at hr
    cases hr
/-- The sums behind so many trees. -/
def sk (xs : List Nat) (base : List Int) (ts : List (Int × List Nd)) : Nat → List Int
  | 0 => base
  | k + 1 => (sk xs base ts k).set (ts.getD k (0, [])).1.toNat (wrap64 ((sk xs base ts k).getD (ts.getD k (0, [])).1.toNat 0 + lfV (ts.getD k (0, [])).2 xs))
theorem sk_len (xs : List Nat) (base : List Int) (ts : List (Int × List Nd)) : ∀ k, (sk xs base ts k).length = base.length
  | 0 => rfl
  | k + 1 => by rw [sk, List.length_set]; exact sk_len xs base ts k
/-- The room behind so many trees. -/
def pk (base : List Int) (ts : List (Int × List Nd)) (o : Nat) : Nat → Nat
  | 0 => (base.getD o 0).natAbs
  | k + 1 => if (ts.getD k (0, [])).1 = (o : Int) then pk base ts o k + lg (ts.getD k (0, [])).2 else pk base ts o k
theorem rmF_mono {o : Int} {ts : List (Int × List Nd)} : ∀ (f k s : Nat), s ≤ rmF o ts f k s
  | 0, k, s => Nat.le_refl _
  | f + 1, k, s => by
    rw [rmF]
    refine Nat.le_trans ?_ (rmF_mono f (k + 1) _)
    split <;> omega
theorem pk_rm (base : List Int) (ts : List (Int × List Nd)) (o : Nat) : ∀ k, k ≤ ts.length → rm base ts o = rmF (o : Int) ts (ts.length - k) k (pk base ts o k)
  | 0, _ => rfl
  | k + 1, h => by
    rw [pk_rm base ts o k (by omega), show ts.length - k = (ts.length - (k + 1)) + 1 by omega, rmF, pk]
theorem pk_le (base : List Int) (ts : List (Int × List Nd)) (o : Nat) (k : Nat) (h : k ≤ ts.length) : pk base ts o k ≤ rm base ts o := by
  rw [pk_rm base ts o k h]
  exact rmF_mono _ _ _
theorem ouF_all {base : List Int} {ts : List (Int × List Nd)} : ∀ (f k : Nat), (ouF base ts f k).1 = 0 → ∀ i, k ≤ i → i < k + f → rm base ts i < 4611686018427387904
  | 0, k, _, i, h1, h2 => by omega
  | f + 1, k, h, i, h1, h2 => by
    rw [ouF] at h
    split at h
    · rename_i hs
      by_cases e : i = k
      · rw [e]; exact of_decide_eq_true hs
      · exact ouF_all f (k + 1) h i (by omega) (by omega)
    · cases h
theorem lfV_eq {L : List Nd} {out N : Int} {xs : List Nat} {t : Int} (h : (trB out N (xs.length : Int) L t).1 = 0) : wyE L xs.length = 0 ∧ lfV L xs = (L.getD (endN L xs) nd0).vl ∧ woV L out N xs = lfV L xs := by
  have h0 := woE_zero h
  obtain ⟨h1, -, -, h4⟩ := woE_ok h0
  have hw : wyE L xs.length = 0 := by unfold wyE; rw [if_pos h1, h4]; rfl
  refine ⟨hw, ?_, ?_⟩
  · unfold lfV; rw [if_pos hw]
  · unfold lfV woV; rw [if_pos hw, if_pos h0]
/-- No sum comes to 2^62, and none wraps. -/
theorem sk_le {xs : List Nat} {base : List Int} {ts : List (Int × List Nd)} {N : Int} (hN : (base.length : Int) = N) (ht : ∀ i, i < ts.length → (trB (ts.getD i (0, [])).1 N (xs.length : Int) (ts.getD i (0, [])).2 (i : Int)).1 = 0) (ho : ∀ o, o < base.length → rm base ts o < 4611686018427387904) : ∀ k, k ≤ ts.length → ∀ o, o < base.length → ((sk xs base ts k).getD o 0).natAbs ≤ pk base ts o k
  | 0, _, o, _ => Nat.le_refl _
  | k + 1, hk, o, hob => by
    have ih := sk_le hN ht ho k (by omega)
    have h1 := ht k (by omega)
    obtain ⟨r1, r2, r3, r4⟩ := trB_ok h1
    obtain ⟨-, v1, -⟩ := lfV_eq h1
    have v2 := lf_le (xs := xs) r3
    rw [← v1] at v2
    obtain ⟨q, hq⟩ : ∃ q : Nat, (ts.getD k (0, [])).1 = (q : Int) := ⟨(ts.getD k (0, [])).1.toNat, by omega⟩
    have hqb : q < base.length := by omega
    have i1 := ih q hqb
    have p1 := pk_le base ts q (k + 1) hk
    rw [pk, if_pos hq] at p1
    have p2 := ho q hqb
    rw [sk, hq]
    have e : (q : Int).toNat = q := by omega
    rw [e]
    have hwr : wrap64 ((sk xs base ts k).getD q 0 + lfV (ts.getD k (0, [])).2 xs) = (sk xs base ts k).getD q 0 + lfV (ts.getD k (0, [])).2 xs := IntWalk.wrap64_in _ (by omega)
    rw [hwr]
    by_cases hoq : o = q
    · subst hoq
      rw [pk, if_pos hq]
      rw [show ((sk xs base ts k).set o ((sk xs base ts k).getD o 0 + lfV (ts.getD k (0, [])).2 xs)).getD o 0 = (sk xs base ts k).getD o 0 + lfV (ts.getD k (0, [])).2 xs from by simp [List.getD, sk_len, hob]]
      omega
    · rw [pk, if_neg (by rw [hq]; omega)]
      rw [show ((sk xs base ts k).set q ((sk xs base ts k).getD q 0 + lfV (ts.getD k (0, [])).2 xs)).getD o 0 = (sk xs base ts k).getD o 0 from by simp [List.getD, List.getElem?_set, Ne.symm hoq]]
      exact ih o hob
/-- The score is what the sums come to. -/
theorem scF_sk {N : Int} {xs : List Nat} {base : List Int} {ts : List (Int × List Nd)} (ht : ∀ i, i < ts.length → (trB (ts.getD i (0, [])).1 N (xs.length : Int) (ts.getD i (0, [])).2 (i : Int)).1 = 0) : ∀ f k, k + f = ts.length → scF N xs (ts.drop k) (sk xs base ts k) = (sk xs base ts ts.length, 0)
  | 0, k, h => by
    rw [List.drop_of_length_le (by omega), scF, show k = ts.length by omega]
  | f + 1, k, h => by
    have hk : k < ts.length := by omega
    have h1 := ht k hk
    rw [List.drop_eq_getElem_cons hk]
    have e : ts[k] = ts.getD k (0, []) := by simp [List.getD, hk]
    rw [e, scF, if_pos (woE_zero h1), (lfV_eq h1).2.2]
    exact scF_sk ht f (k + 1) (by omega)
end Go.Proofs.YtinjikoocegooaaGreatDoor
