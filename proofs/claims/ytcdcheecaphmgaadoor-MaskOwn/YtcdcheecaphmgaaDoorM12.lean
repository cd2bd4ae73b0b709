import Derived.Test.YtcdcheecaphmgaaDoorProg
import Derived.Test.YtcdcheecaphmgaaDoorBF1
import Derived.WalkKit
import Derived.WalkSpells
import Derived.WalkLawsBesides
import Derived.Laws.CopyOwn
import Derived.Deep.Draws
import Derived.Deep.QuietTactic
import Derived.BigQuiet
import Derived.Deep.RegionWith
import Derived.Deep.RegionHeld3
import Derived.Shelf.Strconv.Itoa0
import Derived.Shelf.Spec.TrailingZeros
import Derived.RangeFuncBox
import Derived.RangeFuncLeaves
import Derived.Shelf.Abstract
import Derived.OwnWalkIn
import Derived.TacticsInMore
import Derived.LoopNIn
import Derived.LoopIn
import Derived.RangeFuncCalls
import Derived.Laws.BytesArg
import Derived.Deep.RegionLaw
import Derived.LaidEqlPtr
import Derived.Test.YtcdcheecaphmgaaDoorBB4
set_option linter.unusedVariables false
set_option linter.unusedSimpArgs false
namespace Go.Proofs.YtcdcheecaphmgaaDoor.Bi
open Go.RowKit
theorem i59j : ∃ j, Tryd.prog.info? 53 = some j ∧ j.size ≠ 0 := by
  obtain ⟨i, hi, -, h, -⟩ := info_parts i59
  exact ⟨i, hi, by rw [h]; decide⟩
set_option maxRecDepth 100000 in
theorem begins_no (ga ca gb cb n : Nat) (ra rb : Array Value) (w : World) (hra : RowC w ga ra) (hrb : RowC w gb rb) (hne : gb ≠ ga) (hn : n ≤ 17592186044416) :
    Calls Tryd.prog 60 #[.slice (some ⟨ga, 0, none⟩) n ca, .slice (some ⟨gb, 0, none⟩) n cb] w fun e w' => e = .returned (.bool false) ∧ Keep w w' ∧ w'.heap = w.heap := by
  obtain ⟨j59, hj1, hj2⟩ := i59j
  go_enter Tryd.func60, Tryd.ntmps60
  go_wp2_with fail
  go_loopw [5] (fun i wr => ∃ k : Nat, 1 ≤ k ∧ (k ≤ n ∨ k = 1) ∧ i = .int .i64 k ∧ Keep w wr ∧ wr.heap = w.heap) (fun i _ => n - (intOf i).toNat)
  case atStart => exact ⟨1, by omega, by omega, rfl, Keep.refl _, rfl⟩
  case round =>
    obtain ⟨k, h1, hkk, rfl, hkp, hh⟩ := hrel
    by_cases hkl : k < n
    · have h0 : 0 < n := by omega
      have heq := run_eql_ptr_other (P := Tryd.prog) (tp := 104) (te := 53) wr.drew (a := ⟨gb, k, none⟩) (b := ⟨ga, 0, none⟩) Tryd.underlying104 hj1 hj2 (by simp [hne]) (show wr.heap[gb]? = _ by rw [hh]; exact hrb) (show wr.heap[ga]? = _ by rw [hh]; exact hra)
      go_wp2_with fail
      go_region_with fail
      all_goals
        go_simp
        go_wp2_with fail
        go_roundw
        case rel => exact ⟨k + 1, by omega, by omega, by go_num, hkp.drew, hh⟩
        case measure => simp [intOf]; omega
    · go_wp2_with fail
      go_ret
      exact ⟨rfl, hkp, hh⟩
end Go.Proofs.YtcdcheecaphmgaaDoor.Bi
set_option linter.unusedVariables false
set_option linter.unusedSimpArgs false
namespace Go.Proofs.YtcdcheecaphmgaaDoor.Bi
open Go.RowKit
theorem Own.at {B : Nat} {w : World} {v : Value} {l : List Nat} (h : Own B w v l) : (v = .slice none 0 0 ∧ l = []) ∨ ∃ g cur cap, v = .slice (some ⟨g, 0, none⟩) l.length cap ∧ B ≤ g ∧ w.heap[g]? = some (.cells cur 53 (0, 0)) ∧ l.length ≤ cap ∧ cur.toList.take l.length = U l := by
  rcases h.2 with ⟨h1, h2⟩ | ⟨g, cap, cur, hv, hg, hh, h1, h2, h3, h4⟩
  · exact .inl ⟨h1, List.length_eq_zero_iff.1 h2⟩
  · refine .inr ⟨g, cur, cap, hv, hg, hh, h1, ?_⟩
    simpa using h4
theorem Meet_ne (ca cb : Nat) (a b : Option Addr) (n m : Nat) (w : World) (h : n ≠ m) :
    Calls Tryd.prog 29 #[.slice a n ca, .slice b m cb] w fun e w' => e = .returned (.int .i64 6) ∧ w' = w := by
  have hne : ((n : Int) == (m : Int)) = false := by rw [beq_eq_false_iff_ne]; omega
  have hne2 : ((n : Int) != (m : Int)) = true := by rw [bne_iff_ne]; omega
  go_enter Tryd.func29, Tryd.ntmps29
  go_wp2_with fail
  go_ret
  exact ⟨rfl, rfl⟩
theorem Mut.of_same {g : Nat} {w w' : World} (k : Keep w w') (h : w'.heap = w.heap) : Mut g w w' := ⟨k.os, k.tape, k.output, by rw [h], fun i _ => by rw [h]⟩
theorem off_row {ga gb : Nat} (h : gb ≠ ga) (m : List Nat) : Off ga (some ⟨gb, 0, none⟩) m := by
  intro b o s e _
  cases e
  exact h
set_option maxRecDepth 100000 in
set_option maxHeartbeats 400000 in
theorem Meet_rows (ga gb ca cb : Nat) (ra rb : Array Value) (l m : List Nat) (w : World) (hra : RowC w ga ra) (hrb : RowC w gb rb) (hne : gb ≠ ga) (hl : l.length ≤ 17592186044416) (hlm : l.length = m.length)
    (hca : ∀ j, j < l.length → ra[j]? = some (.int .u64 (l.getD j 0 : Nat))) (hcb : Rd w (some ⟨gb, 0, none⟩) m) (hwl : W64 l) (hwm : W64 m) :
    Calls Tryd.prog 29 #[.slice (some ⟨ga, 0, none⟩) l.length ca, .slice (some ⟨gb, 0, none⟩) l.length cb] w fun e w' => e = .returned (.int .i64 0) ∧ Rd w' (some ⟨ga, 0, none⟩) (zw (fun x y => x &&& y) l m) ∧ Mut ga w w' := by
  have hB := begins_no ga ca gb cb l.length ra rb w hra hrb hne hl
  have hJ := fun w1 (k : Keep w w1) => join_self ga ca ca cb (some ⟨gb, 0, none⟩) ra l m w1 (hra.keep k) hca hlm hl (hcb.keep k) hwl hwm (off_row hne m)
  clear hca hlm
  go_enter Tryd.func29, Tryd.ntmps29
  go_wp2_with fail
  refine hB.mono ?_
  rintro e w1 ⟨rfl, k1, s1⟩
  go_wp2_with fail
  refine (hJ w1 k1).mono ?_
  rintro e w2 ⟨rfl, r2, m2⟩
  go_wp2_with fail
  go_ret
  exact ⟨rfl, r2, (Mut.of_same k1 s1).trans m2⟩
theorem Meet_nil (a b : Option Addr) (ca cb : Nat) (w : World) :
    Calls Tryd.prog 29 #[.slice a 0 ca, .slice b 0 cb] w fun e w' => e = .returned (.int .i64 0) ∧ w' = w := by
  have hB : ∀ w, Calls Tryd.prog 60 #[.slice a 0 ca, .slice b 0 cb] w fun e w' => e = .returned (.bool false) ∧ w' = w := by
    intro w
    go_enter Tryd.func60, Tryd.ntmps60
    go_wp2_with fail
    refine wp_loop_rounds 1 ?_
    rw [rounds_succ]
    go_wp2_with fail
    go_ret
    exact ⟨rfl, rfl⟩
  have hJ : ∀ w, Calls Tryd.prog 62 #[.slice a 0 ca, .slice a 0 ca, .slice b 0 cb, .func (.func 63) #[] #[]] w fun e w' => e = .returned (.tuple #[]) ∧ w' = w := by
    intro w
    go_enter Tryd.func62, Tryd.ntmps62
    go_wp2_with fail
    refine wp_loop_rounds 1 ?_
    rw [rounds_succ]
    go_wp2_with fail
    go_end0
    exact ⟨rfl, rfl⟩
  go_enter Tryd.func29, Tryd.ntmps29
  go_wp2_with fail
  refine (hB w).mono ?_
  rintro e w1 ⟨rfl, rfl⟩
  go_wp2_with fail
  refine (hJ w1).mono ?_
  rintro e w2 ⟨rfl, rfl⟩
  go_wp2_with fail
  go_ret
  exact ⟨rfl, rfl⟩
/-- Meet of two copies. -/
theorem Meet_own {w0 w1 w2 : World} {vc vd : Value} {l m : List Nat} (hc : Own w0.heap.size w1 vc l) (hd : Own w1.heap.size w2 vd m) (k1 : Keep w0 w1) (k2 : Keep w1 w2) (hl : l.length ≤ 17592186044416) (hwl : W64 l) (hwm : W64 m) :
    ∃ aC cC aD cD, vc = .slice aC l.length cC ∧ vd = .slice aD m.length cD ∧ Calls Tryd.prog 29 #[vc, vd] w2 fun e w' => e = .returned (.int .i64 (ansE l m)) ∧ Rd w' aC (if l.length = m.length then zw (fun x y => x &&& y) l m else l) ∧ Rd w' aD m ∧ Keep w0 w' := by
  obtain ⟨aC, cC, eC, -, rC⟩ := (hc.keep k2).shape
  obtain ⟨aD, cD, eD, -, rD⟩ := hd.shape
  refine ⟨aC, cC, aD, cD, eC, eD, ?_⟩
  by_cases h : l.length = m.length
  · unfold ansE
    rw [if_pos h, if_pos h]
    by_cases h0 : l.length = 0
    · have e1 : l = [] := List.length_eq_zero_iff.1 h0
      have e2 : m = [] := List.length_eq_zero_iff.1 (by omega)
      subst e1 e2
      rw [eC, eD]
      refine (Meet_nil aC aD cC cD w2).mono ?_
      rintro e w' ⟨rfl, rfl⟩
      exact ⟨rfl, Rd.nil _ _, Rd.nil _ _, k1.trans k2⟩
    · rcases hc.at with ⟨-, e0⟩ | ⟨g, cur, cap, e1, g1, h1, n1, t1⟩
      · subst e0; simp at h0
      · rcases hd.at with ⟨-, e0⟩ | ⟨g', cur', cap', e2, g2, h2, n2, t2⟩
        · subst e0; exact absurd h h0
        · have hg : g < w1.heap.size := (Array.getElem?_eq_some_iff.1 h1).1
          have hne : g' ≠ g := by omega
          have h1' : RowC w1 g cur := h1
          have hcu : ∀ j, j < l.length → cur[j]? = some (.int .u64 (l.getD j 0 : Nat)) := by
            intro j hj
            have q := congrArg (fun t => t[j]?) t1
            simp only [List.getElem?_take, hj, if_true] at q
            rw [U_get l j hj] at q
            simpa using q
          have eaC : aC = some ⟨g, 0, none⟩ := by rw [eC] at e1; injection e1
          have eaD : aD = some ⟨g', 0, none⟩ := by rw [eD] at e2; injection e2
          subst eaC eaD
          rw [eC, eD, ← h]
          refine (Meet_rows g g' cC cD cur cur' l m w2 (h1'.keep k2) h2 hne hl h hcu rD hwl hwm).mono ?_
          rintro e w' ⟨rfl, r1, m1⟩
          refine ⟨rfl, r1, rD.mut m1 (off_row hne m), (k1.trans k2).mut m1 g1⟩
  · unfold ansE
    rw [if_neg h, if_neg h, eC, eD]
    refine (Meet_ne cC cD aC aD l.length m.length w2 h).mono ?_
    rintro e w' ⟨rfl, rfl⟩
    exact ⟨rfl, rC, rD, k1.trans k2⟩
end Go.Proofs.YtcdcheecaphmgaaDoor.Bi
set_option linter.unusedVariables false
set_option linter.unusedSimpArgs false
namespace Go.Proofs.YtcdcheecaphmgaaDoor.Bi
open Go.RowKit
set_option maxRecDepth 100000 in
set_option maxHeartbeats 400000 in
/-- Into the first one itself; its row. -/
theorem join_row (g c ca cb : Nat) (b : Option Addr) (cur : Array Value) (l m : List Nat) (w : World) (hrow : RowC w g cur) (hcu : ∀ j, j < l.length → cur[j]? = some (.int .u64 (l.getD j 0 : Nat))) (hlm : l.length = m.length) (hl : l.length ≤ 17592186044416) (hb : Rd w b m) (hwl : W64 l) (hwm : W64 m) (ob : Off g b m) :
    Calls Tryd.prog 62 #[.slice (some ⟨g, 0, none⟩) l.length c, .slice (some ⟨g, 0, none⟩) l.length ca, .slice b l.length cb, .func (.func 63) #[] #[]] w fun e w' => e = .returned (.tuple #[]) ∧ (∃ rk, RowC w' g rk ∧ (∀ j, j < l.length → rk[j]? = some (.int .u64 ((zw (fun x y => x &&& y) l m).getD j 0 : Nat))) ∧ ∀ j, l.length ≤ j → rk[j]? = cur[j]?) ∧ Mut g w w' := by
  have Hlm : Hid (l.length = m.length) := hlm
  have Hcu : Hid (∀ j, j < l.length → cur[j]? = some (.int .u64 (l.getD j 0 : Nat))) := hcu
  clear hlm hcu
  go_enter Tryd.func62, Tryd.ntmps62
  go_wp2_with fail
  go_loopw [11] (fun i wr => ∃ (k : Nat) (rk : Array Value), k ≤ l.length ∧ i = .int .i64 k ∧ RowC wr g rk ∧ Hid (∀ j, j < k → rk[j]? = some (.int .u64 ((zw (fun x y => x &&& y) l m).getD j 0 : Nat))) ∧ Hid (∀ j, k ≤ j → rk[j]? = cur[j]?) ∧ Mut g w wr) (fun i _ => l.length - (intOf i).toNat)
  case atStart => exact ⟨0, cur, by omega, rfl, hrow, fun j hj => absurd hj (by omega), fun _ _ => rfl, Mut.refl _ _⟩
  case round =>
    obtain ⟨k, rk, hkk, rfl, hrk, htk, hrest, hm⟩ := hrel
    by_cases hkl : k < l.length
    · obtain ⟨b2, o2, e2, c2⟩ := (hb.mut hm ob) k (by have := Hlm.out; omega)
      subst e2
      have hx := W64_getD hwl k
      have hy := W64_getD hwm k
      have c1 := hrk.cell k
      rw [hrest.out k (Nat.le_refl _), Hcu.out k hkl] at c1
      have hks : k < rk.size := by
        have := (hrest.out k (Nat.le_refl _)).trans (Hcu.out k hkl)
        exact (Array.getElem?_eq_some_iff.1 this).1
      have Ht : Hid ((zw (fun x y => x &&& y) l m).getD k 0 = (fun x y => x &&& y) (l.getD k 0) (m.getD k 0)) := zw_get _ Hlm.out hkl
      have hfz := hrk.frozen k
      generalize l.getD k 0 = x at c1 hx Ht
      generalize m.getD k 0 = y at c2 hy Ht
      have Hin : Hid (∀ j, j < k + 1 → (rk.setIfInBounds k (.int .u64 ((x &&& y : Nat) : Int)))[j]? = some (.int .u64 ((zw (fun x y => x &&& y) l m).getD j 0 : Nat))) := by
        show ∀ j, _
        intro j hj
        rw [Array.getElem?_setIfInBounds]
        by_cases e : k = j
        · subst e; rw [if_pos rfl, if_pos hks, Ht.out]
        · rw [if_neg e]; exact htk.out j (by omega)
      have Hout : Hid (∀ j, k + 1 ≤ j → (rk.setIfInBounds k (.int .u64 ((x &&& y : Nat) : Int)))[j]? = cur[j]?) := by
        show ∀ j, _
        intro j hj
        rw [Array.getElem?_setIfInBounds, if_neg (by omega)]
        exact hrest.out j (by omega)
      have hC := fun w => and_any x y w hx hy
      clear hks
      go_wp2_with fail
      go_region_with (go_at_call 63; refine (hC _).mono ?_; rintro e w' ⟨rfl, rfl⟩)
      all_goals go_simp
      all_goals go_wp2_with fail
      all_goals
        go_roundw
        case rel => exact ⟨k + 1, _, by omega, by go_num, hrk.set k _, Hin, Hout, (hm.setCell k _).drew⟩
        case measure => simp [intOf]; omega
    · obtain rfl : k = l.length := by omega
      go_wp2_with fail
      go_end0
      exact ⟨rfl, ⟨rk, hrk, htk.out, hrest.out⟩, hm⟩
theorem row_of {g : Nat} {w : World} {l : List Nat} {rk : Array Value} (n : Nat) (hn : l.length = n) (h : RowC w g rk) (h1 : ∀ j, j < n → rk[j]? = some (.int .u64 (l.getD j 0 : Nat))) (h2 : ∀ j, n ≤ j → rk[j]? = none) : Row w g l := by
  have e : rk = (U l).toArray := by
    refine Array.ext' (List.ext_getElem? fun j => ?_)
    by_cases hj : j < n
    · have := h1 j hj
      rw [Array.getElem?_toList, this, U_get l j (by omega)]
    · have := h2 j (by omega)
      rw [Array.getElem?_toList, this]
      symm
      rw [List.getElem?_eq_none_iff]
      simp [U]
      omega
  unfold Row
  rw [← e]
  exact h
set_option maxRecDepth 100000 in
set_option maxHeartbeats 400000 in
theorem Meet_row (ga gb ca cb : Nat) (l m : List Nat) (w : World) (hra : Row w ga l) (hrb : Row w gb m) (hne : gb ≠ ga) (hl : l.length ≤ 17592186044416) (hlm : l.length = m.length) (hwl : W64 l) (hwm : W64 m) :
    Calls Tryd.prog 29 #[.slice (some ⟨ga, 0, none⟩) l.length ca, .slice (some ⟨gb, 0, none⟩) l.length cb] w fun e w' => e = .returned (.int .i64 0) ∧ Row w' ga (zw (fun x y => x &&& y) l m) ∧ Mut ga w w' := by
  have hB := begins_no ga ca gb cb l.length _ _ w hra hrb hne hl
  have hcb : Rd w (some ⟨gb, 0, none⟩) m := fun j hj => ⟨gb, 0, rfl, by rw [Nat.zero_add]; exact hrb.cell j hj⟩
  have hca : ∀ j, j < l.length → (U l).toArray[j]? = some (.int .u64 (l.getD j 0 : Nat)) := fun j hj => by rw [List.getElem?_toArray]; exact U_get l j hj
  have hno : ∀ j, l.length ≤ j → (U l).toArray[j]? = none := fun j hj => by rw [List.getElem?_toArray, List.getElem?_eq_none_iff]; simp [U]; omega
  have hJ := fun w1 (k : Keep w w1) => join_row ga ca ca cb (some ⟨gb, 0, none⟩) _ l m w1 (RowC.keep hra k) hca hlm hl (hcb.keep k) hwl hwm (off_row hne m)
  have hzl := zw_length (fun x y => x &&& y) hlm
  replace hno : Hid _ := hno
  replace hzl : Hid _ := hzl
  clear hca hlm
  go_enter Tryd.func29, Tryd.ntmps29
  go_wp2_with fail
  refine hB.mono ?_
  rintro e w1 ⟨rfl, k1, s1⟩
  go_wp2_with fail
  refine (hJ w1 k1).mono ?_
  rintro e w2 ⟨rfl, ⟨rk, r1, r2, r3⟩, m2⟩
  replace r2 : Hid _ := r2
  replace r3 : Hid _ := r3
  go_wp2_with fail
  go_ret
  exact ⟨rfl, row_of l.length hzl.out r1 r2.out (fun j hj => (r3.out j hj).trans (hno.out j hj)), (Mut.of_same k1 s1).trans m2⟩
/-- The meeting of two sets of n. -/
theorem mkl_and {n : Nat} {f g : Nat → Bool} {l m : List Nat} (h1 : mkl n f l) (h2 : mkl n g m) : mkl n (fun i => f i && g i) (zw (fun x y => x &&& y) l m) := by
  have hlm : l.length = m.length := h1.1.trans h2.1.symm
  refine ⟨(zw_length _ hlm).trans h1.1, ?_, ?_⟩
  · intro x hx
    obtain ⟨i, hi, e⟩ := List.getElem_of_mem hx
    have hi2 : i < l.length := by rw [zw_length _ hlm] at hi; exact hi
    have e2 := zw_get (fun x y => x &&& y) hlm hi2
    rw [List.getD_eq_getElem?_getD, List.getElem?_eq_getElem hi, Option.getD_some, e] at e2
    rw [e2]
    exact Nat.lt_of_le_of_lt Nat.and_le_left (W64_getD h1.2.1 i)
  · intro i
    have e : hs (zw (fun x y => x &&& y) l m) i = (hs l i && hs m i) := by
      unfold hs
      by_cases hi : i / 64 < l.length
      · rw [zw_get _ hlm hi, Nat.testBit_and]
      · have e1 : (zw (fun x y => x &&& y) l m).getD (i / 64) 0 = 0 := by rw [List.getD_eq_getElem?_getD, List.getElem?_eq_none_iff.2 (by rw [zw_length _ hlm]; omega)]; rfl
        have e2 : l.getD (i / 64) 0 = 0 := by rw [List.getD_eq_getElem?_getD, List.getElem?_eq_none_iff.2 (by omega)]; rfl
        rw [e1, e2]; simp
    rw [e, h1.2.2, h2.2.2]
    cases decide (i < n) <;> simp
end Go.Proofs.YtcdcheecaphmgaaDoor.Bi
