import Derived.Test.YtaogjiffnebnkaaV7
import Derived.BigQuiet
import Derived.BigRegion
import Derived.Deep.QuietTactic
import Derived.RegionTactic
import Derived.Laws.Rows
set_option linter.unusedVariables false
set_option linter.unusedSimpArgs false
namespace Go.Proofs.Ytaogjiffnebnkaa.Cu
open Go.RowKit
abbrev It := Ct × Option Addr × Nat
abbrev d0 : It := ct0
theorem U_set : ∀ (l : List It) (j : Nat) (x : It), j < l.length → UC (l.set j x) = (((((UC l).set (j * 5) (.float .f64 x.1.th)).set (j * 5 + 1) (.slice x.2.1 x.1.cs.length x.2.2)).set (j * 5 + 2) (.int .i64 x.1.tr)).set (j * 5 + 3) (.int .i64 x.1.fr)).set (j * 5 + 4) (.int .i64 x.1.to)
  | [], j, x, h => by simp at h
  | r :: l, 0, x, _ => by simp [UC]
  | r :: l, j + 1, x, h => by
    have ih := U_set l j x (by simpa using h)
    rw [show (j + 1) * 5 = (j * 5) + 1 + 1 + 1 + 1 + 1 by omega, show j * 5 + 1 + 1 + 1 + 1 + 1 + 1 = (j * 5 + 1) + 1 + 1 + 1 + 1 + 1 by omega, show j * 5 + 1 + 1 + 1 + 1 + 1 + 2 = (j * 5 + 2) + 1 + 1 + 1 + 1 + 1 by omega, show j * 5 + 1 + 1 + 1 + 1 + 1 + 3 = (j * 5 + 3) + 1 + 1 + 1 + 1 + 1 by omega, show j * 5 + 1 + 1 + 1 + 1 + 1 + 4 = (j * 5 + 4) + 1 + 1 + 1 + 1 + 1 by omega]
    simp only [List.set_cons_succ, UC]
    rw [ih]
/-- Items as they lie in a row that is sorted: at its beginning, perhaps with room behind; and the key's function in its box. -/
def Arr (kb : Nat) (w : World) (g : Nat) (l : List It) : Prop := (∃ cur : Array Value, w.heap[g]? = some (.cells cur 57 (0, 0)) ∧ cur.toList.take (l.length * 5) = UC l) ∧ w.cell? ⟨kb, 0, none⟩ = some (.func (.func 54) #[] #[]) ∧ kb ≠ g
/-- An item in memory. -/
structure At (w : World) (g j : Nat) (x : It) : Prop where
  c0 : w.cell? ⟨g, j * 5, none⟩ = some (.float .f64 x.1.th)
  c1 : w.cell? ⟨g, j * 5 + 1, none⟩ = some (.slice x.2.1 x.1.cs.length x.2.2)
  c2 : w.cell? ⟨g, j * 5 + 2, none⟩ = some (.int .i64 x.1.tr)
  c3 : w.cell? ⟨g, j * 5 + 3, none⟩ = some (.int .i64 x.1.fr)
  c4 : w.cell? ⟨g, j * 5 + 4, none⟩ = some (.int .i64 x.1.to)
  f0 : w.frozen? ⟨g, j * 5, none⟩ = false
  f1 : w.frozen? ⟨g, j * 5 + 1, none⟩ = false
  f2 : w.frozen? ⟨g, j * 5 + 2, none⟩ = false
  f3 : w.frozen? ⟨g, j * 5 + 3, none⟩ = false
  f4 : w.frozen? ⟨g, j * 5 + 4, none⟩ = false
theorem Arr.box {kb : Nat} {w : World} {g : Nat} {l : List It} (h : Arr kb w g l) : w.cell? ⟨kb, 0, none⟩ = some (.func (.func 54) #[] #[]) := h.2.1
theorem Arr.cell {kb : Nat} {w : World} {g : Nat} {l : List It} (h : Arr kb w g l) {j : Nat} (hj : j < l.length) : At w g j (l.getD j d0) := by
  obtain ⟨⟨cur, h1, h2⟩, -, -⟩ := h
  have e : ∀ i, i < 5 → cur[j * 5 + i]? = (UC [l.getD j d0])[i]? := by
    intro i hi
    rw [← UC_get l j i hj hi, ← h2, List.getElem?_take, if_pos (by omega), Array.getElem?_toList]
  have c : ∀ i u, i < 5 → (UC [l.getD j d0])[i]? = some u → w.cell? ⟨g, j * 5 + i, none⟩ = some u := fun i u hi hu => by rw [cell_of_row w g _ cur 57 (0, 0) h1, e i hi, hu]
  exact ⟨c 0 _ (by omega) rfl, c 1 _ (by omega) rfl, c 2 _ (by omega) rfl, c 3 _ (by omega) rfl, c 4 _ (by omega) rfl, frozen_of_row w g _ cur 57 h1, frozen_of_row w g _ cur 57 h1, frozen_of_row w g _ cur 57 h1, frozen_of_row w g _ cur 57 h1, frozen_of_row w g _ cur 57 h1⟩
/-- An item written. -/
def put (w : World) (g j : Nat) (x : It) : World := (((((w.setCell ⟨g, j * 5, none⟩ (.float .f64 x.1.th)).setCell ⟨g, j * 5 + 1, none⟩ (.slice x.2.1 x.1.cs.length x.2.2)).setCell ⟨g, j * 5 + 2, none⟩ (.int .i64 x.1.tr)).setCell ⟨g, j * 5 + 3, none⟩ (.int .i64 x.1.fr)).setCell ⟨g, j * 5 + 4, none⟩ (.int .i64 x.1.to))
theorem Arr.set {kb : Nat} {w : World} {g : Nat} {l : List It} (h : Arr kb w g l) (j : Nat) (x : It) (hj : j < l.length) : Arr kb (put w g j x) g (l.set j x) := by
  obtain ⟨⟨cur, h1, h2⟩, h3, h4⟩ := h
  unfold put
  refine ⟨⟨_, heap_setCell_same _ g (j * 5 + 4) _ 57 _ (heap_setCell_same _ g (j * 5 + 3) _ 57 _ (heap_setCell_same _ g (j * 5 + 2) _ 57 _ (heap_setCell_same _ g (j * 5 + 1) _ 57 _ (heap_setCell_same _ g (j * 5) _ 57 _ (h1))))), ?_⟩, ?_, h4⟩
  · rw [List.length_set, U_set l j x hj, ← h2]
    simp only [Array.toList_setIfInBounds, List.take_set]
  · have hn : ∀ (w : World) i v, (w.setCell ⟨g, i, none⟩ v).cell? ⟨kb, 0, none⟩ = w.cell? ⟨kb, 0, none⟩ := fun w i v => World.cell?_setCell_other w _ _ v (fun e => h4 (by have := congrArg Addr.block e; simp at this; omega))
    rw [hn, hn, hn, hn, hn]
    exact h3
/-- All but one block as it was, beside new ones. -/
structure Oth (g : Nat) (w w' : World) : Prop where
  os : w'.os = w.os
  tape : w'.tape = w.tape
  output : w'.output = w.output
  size : w.heap.size ≤ w'.heap.size
  block : ∀ k, k < w.heap.size → k ≠ g → w'.heap[k]? = w.heap[k]?
theorem Oth.refl (g : Nat) (w : World) : Oth g w w := ⟨rfl, rfl, rfl, Nat.le_refl _, fun _ _ _ => rfl⟩
theorem Oth.trans {g : Nat} {a b c : World} (h : Oth g a b) (k : Oth g b c) : Oth g a c := ⟨k.os.trans h.os, k.tape.trans h.tape, k.output.trans h.output, Nat.le_trans h.size k.size, fun j hl hj => (k.block j (Nat.lt_of_lt_of_le hl h.size) hj).trans (h.block j hl hj)⟩
theorem Oth.set {g : Nat} {a b : World} (h : Oth g a b) (j : Nat) (v : Value) : Oth g a (b.setCell ⟨g, j, none⟩ v) := ⟨h.os, h.tape, h.output, by rw [World.size_setCell]; exact h.size, fun k hl hk => (Below.heap_setCell _ _ _ _ (by simpa using hk)).trans (h.block k hl hk)⟩
theorem Oth.put {g : Nat} {a b : World} (h : Oth g a b) (j : Nat) (x : It) : Oth g a (put b g j x) := by
  unfold Cu.put
  exact (((((h.set _ _).set _ _).set _ _).set _ _).set _ _)
theorem Oth.keep {g : Nat} {a b c : World} (h : Oth g a b) (k : Keep b c) : Oth g a c := h.trans ⟨k.os, k.tape, k.output, k.size, fun j hl _ => k.block j hl⟩
theorem Oth.drew {g : Nat} {a b : World} (h : Oth g a b) : Oth g a b.drew := ⟨h.os, h.tape, h.output, h.size, h.block⟩
theorem Arr.keep {kb : Nat} {w w' : World} {g : Nat} {l : List It} (h : Arr kb w g l) (k : Keep w w') : Arr kb w' g l := by
  obtain ⟨⟨cur, h1, h2⟩, h3, h4⟩ := h
  exact ⟨⟨cur, by rw [k.block g (Array.getElem?_eq_some_iff.1 h1).1]; exact h1, h2⟩, k.cell h3, h4⟩
theorem Arr.drew {kb : Nat} {w : World} {g : Nat} {l : List It} (h : Arr kb w g l) : Arr kb w.drew g l := h
/-- Two exchanged. -/
theorem Arr.swap {kb : Nat} {w0 w : World} {g : Nat} {l : List It} (h : Arr kb w g l) (o : Oth g w0 w) (i j : Nat) {x y : It} (hi : i < l.length) (hj : j < l.length) :
    Arr kb (put (put w g i y) g j x) g ((l.set i y).set j x) ∧ Oth g w0 (put (put w g i y) g j x) := ⟨(h.set i y hi).set j x (by rw [List.length_set]; exact hj), (o.put i y).put j x⟩
/-- The key of an item. -/
def kI (x : It) : Int := ((key x.1.th : Nat) : Int)
def F64 (l : List It) : Prop := ∀ x ∈ l, x.1.th < 18446744073709551616
theorem F64.at {l : List It} (h : F64 l) (i : Nat) (hi : i < l.length) : F64 [l.getD i d0] := fun x hx => by
  rw [List.mem_singleton.1 hx]
  exact h _ (by simp [List.getD, hi])
abbrev cmpF (kb : Nat) : Value := .func (.func 74) #[] #[.pointer (some ⟨kb, 0, none⟩)]
/-- An item as a value. -/
abbrev vI (x : It) : Value := .agg #[.float .f64 x.1.th, .slice x.2.1 x.1.cs.length x.2.2, .int .i64 x.1.tr, .int .i64 x.1.fr, .int .i64 x.1.to]
theorem Compare_any (kb : Nat) (x y : It) (w : World) (hx : F64 [x]) (hy : F64 [y]) (hkb : w.cell? ⟨kb, 0, none⟩ = some (.func (.func 54) #[] #[])) :
    Calls Try.prog 74 #[vI x, vI y, .pointer (some ⟨kb, 0, none⟩)] w fun e w' => e = .returned (.int .i64 (cmpQ (kI x) (kI y))) ∧ Keep w w' := cmpC_any _ _ _ _ _ _ _ _ _ _ _ _ _ _ kb w (hx x (by simp)) (hy y (by simp)) hkb
theorem cmpI_lt (x y : It) : decide (cmpQ (kI x) (kI y) < 0) = decide (kI x < kI y) := cmpQ_lt _ _
end Go.Proofs.Ytaogjiffnebnkaa.Cu
set_option linter.unusedVariables false
set_option linter.unusedSimpArgs false
namespace Go.Proofs.Ytaogjiffnebnkaa.Cu
open Go.RowKit
attribute [local go_sem] run_store_float
set_option maxRecDepth 100000 in
set_option maxHeartbeats 2000000 in
/-- Two stretches exchanged. -/
theorem swapRange_any (kb g c a b n : Nat) (l : List It) (w : World) (hl : l.length ≤ 17592186044416) (hab : a + n ≤ b) (hb : b + n ≤ l.length) (hA : Arr kb w g l) :
    Calls Try.prog 124 #[.slice (some ⟨g, 0, none⟩) l.length c, .int .i64 (a : Int), .int .i64 (b : Int), .int .i64 (n : Int), cmpF kb] w fun e w' => (∃ v, e = .returned v) ∧ Arr kb w' g (swF d0 l a b n) ∧ Oth g w w' := by
  go_enter Try.func124, Try.ntmps124
  go_wp2_with fail
  go_loopw [10] (fun iv wr => ∃ k : Nat, iv = .int .i64 k ∧ k ≤ n ∧ Arr kb wr g (swF d0 l a b k) ∧ Oth g w wr) (fun iv _ => n - (intOf iv).toNat)
  case atStart => exact ⟨0, rfl, by omega, by rw [swF_zero]; exact hA, Oth.refl _ _⟩
  case round =>
    obtain ⟨k, rfl, hk, hr, ko⟩ := hrel
    by_cases hkl : k < n
    · have hkc : (k : Int) < (n : Int) := by omega
      have hA1 := hr.cell (j := a + k) (by rw [swF_len]; omega)
      have hB1 := hr.cell (j := b + k) (by rw [swF_len]; omega)
      obtain ⟨x, hx⟩ : ∃ x, (swF d0 l a b k).getD (a + k) d0 = x := ⟨_, rfl⟩
      obtain ⟨y, hy⟩ : ∃ y, (swF d0 l a b k).getD (b + k) d0 = y := ⟨_, rfl⟩
      have hnx := swF_next d0 l a b k (by omega) (by omega)
      rw [hx, hy] at hnx
      rw [hx] at hA1
      rw [hy] at hB1
      obtain ⟨cx0, cx1, cx2, cx3, cx4, gcx0, gcx1, gcx2, gcx3, gcx4⟩ := hA1
      obtain ⟨cy0, cy1, cy2, cy3, cy4, gcy0, gcy1, gcy2, gcy3, gcy4⟩ := hB1
      obtain ⟨q1, q2⟩ := hr.swap ko (a + k) (b + k) (x := x) (y := y) (by rw [swF_len]; omega) (by rw [swF_len]; omega)
      rw [hnx] at q1
      have c1 : (a : Int) + (k : Int) < (l.length : Int) := by omega
      have c2 : (b : Int) + (k : Int) < (l.length : Int) := by omega
      have hne : a + k ≠ b + k := by omega
      have HK : Hid (k < n) := hkl
      replace q1 : Hid _ := q1
      replace q2 : Hid _ := q2
      clear hx hy hnx hkl hr ko
      go_wp2_with fail
      go_region
      all_goals
        go_wp2_with fail
        go_roundw
        case rel => exact ⟨k + 1, by go_num, by have := HK.out; omega, Arr.drew q1.out, Oth.drew q2.out⟩
        case measure => have := HK.out; simp [intOf]; omega
    · have hkc : ¬ (k : Int) < (n : Int) := by omega
      obtain rfl : k = n := by omega
      go_wp2_with fail
      go_end0
      exact ⟨⟨_, rfl⟩, hr, ko⟩
end Go.Proofs.Ytaogjiffnebnkaa.Cu
set_option linter.unusedVariables false
set_option linter.unusedSimpArgs false
namespace Go.Proofs.Ytaogjiffnebnkaa.Cu
open Go.RowKit
attribute [local go_sem] run_store_float
set_option maxRecDepth 100000 in
set_option maxHeartbeats 4000000 in
theorem insertion_any (kb g c : Nat) (P X Q : List It) (w : World) (hF : F64 (P ++ (X ++ Q))) (hl : (P ++ (X ++ Q)).length ≤ 17592186044416) (hA : Arr kb w g (P ++ (X ++ Q))) :
    Calls Try.prog 105 #[.slice (some ⟨g, 0, none⟩) (P ++ (X ++ Q)).length c, .int .i64 (P.length : Int), .int .i64 ((P.length + X.length : Nat) : Int), cmpF kb] w fun e w' => (∃ v, e = .returned v) ∧ (∃ M, M.length = X.length ∧ srt kI M ∧ eqv kI M X ∧ Arr kb w' g (P ++ (M ++ Q))) ∧ Oth g w w' := by
  obtain ⟨n, hn⟩ : ∃ n, (P ++ (X ++ Q)).length = n := ⟨_, rfl⟩
  have HN : Hid (P.length + X.length + Q.length = n) := by show _ = _; rw [← hn]; simp; omega
  obtain ⟨a, ha⟩ : ∃ a, P.length = a := ⟨_, rfl⟩
  have HA : Hid (P.length = a) := ha
  obtain ⟨b, hb⟩ : ∃ b, a + X.length = b := ⟨_, rfl⟩
  have HB : Hid (a + X.length = b) := hb
  have hbn : b ≤ n := by have := HN.out; have := HA.out; omega
  rw [hn] at hl ⊢
  rw [ha, hb]
  replace hF : Hid _ := hF
  replace hA : Hid _ := hA
  clear hn ha hb
  have han : a ≤ 17592186044416 := by have := HN.out; have := HA.out; omega
  by_cases hX : b ≤ a
  · have HX : Hid (X = []) := by
      show _ = _
      have := HB.out
      exact List.eq_nil_of_length_eq_zero (by omega)
    have c1 : ¬ (a : Int) + 1 < (b : Int) := by omega
    go_enter Try.func105, Try.ntmps105
    go_wp2_with fail
    go_loopw [8] (fun iv wr => iv = .int .i64 ((a : Int) + 1) ∧ wr = w) (fun iv _ => 0)
    case atStart => exact ⟨rfl, rfl⟩
    case round =>
      obtain ⟨rfl, rfl⟩ := hrel
      go_wp2_with fail
      go_end0
      refine ⟨⟨_, rfl⟩, ⟨[], ?_, List.Pairwise.nil, ?_, ?_⟩, Oth.refl _ _⟩
      · rw [HX.out]
      · rw [HX.out]; exact eqv.refl _
      · have := hA.out; rw [HX.out] at this; exact this
  · obtain ⟨x0, X0, hX0⟩ : ∃ x0 X0, X = x0 :: X0 := by
      cases X with
      | nil => have := HB.out; simp at this; omega
      | cons x0 X0 => exact ⟨x0, X0, rfl⟩
    have hA0 : Hid (Arr kb w g (P ++ ([x0] ++ (X0 ++ Q)))) := by
      have := hA.out
      rw [hX0] at this
      exact this
    have HX : Hid (X = x0 :: X0) := hX0
    have HF : Hid (∀ M R, eqv kI (M ++ R) X → F64 (P ++ (M ++ (R ++ Q)))) := by
      intro M R he x hx
      have h0 := hF.out x
      rcases List.mem_append.1 hx with q | q
      · exact h0 (by simp [q])
      · rw [← List.append_assoc] at q
        rcases List.mem_append.1 q with q | q
        · exact h0 (by simp [he.mem q])
        · exact h0 (by simp [q])
    have hab : a < b := by omega
    clear hX hX0 hA
    go_enter Try.func105, Try.ntmps105
    go_wp2_with fail
    go_loopw [8] (fun iv wr => ∃ (i : Nat) (M R : List It), iv = .int .i64 (i : Int) ∧ i ≤ b ∧ Hid (a + M.length = i ∧ 1 ≤ M.length ∧ M.length + R.length = X.length ∧ srt kI M ∧ eqv kI (M ++ R) X) ∧ Hid (Arr kb wr g (P ++ (M ++ (R ++ Q)))) ∧ Oth g w wr) (fun iv _ => b - (intOf iv).toNat)
    case atStart => exact ⟨a + 1, [x0], X0, by go_num, by omega, ⟨by simp, by simp, by rw [HX.out]; simp; omega, List.pairwise_singleton _ _, by rw [HX.out]; exact eqv.refl _⟩, hA0, Oth.refl _ _⟩
    case round =>
      obtain ⟨i, M, R, rfl, hi, hI, hR, ko⟩ := hrel
      obtain ⟨wo, hwo⟩ : ∃ wo, wo = wr := ⟨_, rfl⟩
      subst hwo
      by_cases hib : i < b
      · have hic : (i : Int) < (b : Int) := by omega
        obtain ⟨x, R', hR'⟩ : ∃ x R', R = x :: R' := by
          cases R with
          | nil => have h1 := hI.out; have h2 := HB.out; simp at h1; omega
          | cons x R' => exact ⟨x, R', rfl⟩
        have hI2 : Hid (a + M.length = i ∧ 1 ≤ M.length ∧ M.length + R'.length + 1 = X.length ∧ srt kI M ∧ eqv kI (M ++ (x :: R')) X) := by
          have := hI.out
          rw [hR'] at this
          exact ⟨this.1, this.2.1, by have := this.2.2.1; simp at this; omega, this.2.2.2.1, this.2.2.2.2⟩
        have hR2 : Hid (Arr kb wo g (P ++ (M ++ (x :: ([] ++ (R' ++ Q)))))) := by
          have := hR.out
          rw [hR'] at this
          exact this
        have HIB : Hid (i < b) := hib
        clear hI hR hR' hib hi
        go_wp2_with fail
        go_loopw [9] (fun jv wr => ∃ (j : Nat) (M1 M2 : List It), jv = .int .i64 (j : Int) ∧ a ≤ j ∧ j ≤ i ∧ Hid (a + M1.length = j ∧ M = M1 ++ M2 ∧ ∀ y ∈ M2, kI x < kI y) ∧ Hid (Arr kb wr g (P ++ (M1 ++ (x :: (M2 ++ (R' ++ Q)))))) ∧ Oth g wo wr) (fun jv _ => (intOf jv).toNat)
        case atStart => exact ⟨i, M, [], rfl, by have := hI2.out; omega, by omega, ⟨hI2.out.1, by simp, by simp⟩, hR2, Oth.refl _ _⟩
        case round =>
          obtain ⟨j, M1, M2, rfl, haj, hji, hJ, hW, kj⟩ := hrel
          have hjn : j < n := by have := HIB.out; omega
          have HL : Hid ((P ++ (M1 ++ (x :: (M2 ++ (R' ++ Q))))).length = n) := by
            show _ = _
            have h1 := HN.out; have h2 := HA.out; have h3 := HB.out; have h4 := hI2.out; have h5 := hJ.out
            have h6 := congrArg List.length h5.2.1
            simp at h6 ⊢
            omega
          have HEND : Hid (∀ wz, Arr kb wz g (P ++ (M1 ++ (x :: (M2 ++ (R' ++ Q))))) → (∀ y ∈ M1, kI y ≤ kI x) → (a + (M1 ++ x :: M2).length = i + 1 ∧ 1 ≤ (M1 ++ x :: M2).length ∧ (M1 ++ x :: M2).length + R'.length = X.length ∧ srt kI (M1 ++ x :: M2) ∧ eqv kI ((M1 ++ x :: M2) ++ R') X) ∧ Arr kb wz g (P ++ ((M1 ++ x :: M2) ++ (R' ++ Q)))) := by
            intro wz hz hle
            have h4 := hI2.out; have h5 := hJ.out
            have h6 := congrArg List.length h5.2.1
            have hs := h4.2.2.2.1
            rw [h5.2.1] at hs
            obtain ⟨p1, p2⟩ := put_right hs hle h5.2.2
            simp only [List.length_append] at h6
            refine ⟨⟨by simp; omega, by simp; omega, by simp; omega, p1, ?_⟩, by simpa [List.append_assoc] using hz⟩
            have h7 := p2.app (eqv.refl (key := kI) R')
            rw [← h5.2.1] at h7
            refine h7.trans ?_
            have := h4.2.2.2.2
            simpa [List.append_assoc] using this
          by_cases hja : a < j
          · obtain ⟨M1', y, hM1⟩ : ∃ M1' y, M1 = M1' ++ [y] := by
              rcases List.eq_nil_or_concat M1 with q | ⟨q, z, e⟩
              · have := hJ.out.1; rw [q] at this; simp at this; omega
              · exact ⟨q, z, by rw [e]; simp⟩
            have hW2 := hW.out
            have cx := hW2.cell (j := j) (by rw [HL.out]; exact hjn)
            have cy := hW2.cell (j := j - 1) (by rw [HL.out]; omega)
            have zk := hW2.box
            have hj1 : P.length + M1'.length = j - 1 := by have h1 := hJ.out.1; have h2 := HA.out; rw [hM1] at h1; simp at h1; omega
            have ex : (P ++ (M1 ++ (x :: (M2 ++ (R' ++ Q))))).getD j d0 = x := by
              rw [hM1, getD_right d0 P _ (by omega), List.append_assoc, getD_right d0 M1' _ (by omega), List.singleton_append, show j - P.length - M1'.length = 1 by omega]; rfl
            have ey : (P ++ (M1 ++ (x :: (M2 ++ (R' ++ Q))))).getD (j - 1) d0 = y := by
              rw [hM1, getD_right d0 P _ (by omega), List.append_assoc, getD_right d0 M1' _ (by omega), List.singleton_append, show j - 1 - P.length - M1'.length = 0 by omega]; rfl
            have EX : Hid ((P ++ (M1 ++ (x :: (M2 ++ (R' ++ Q))))).getD j d0 = x) := ex
            have EY0 : Hid ((P ++ (M1 ++ (x :: (M2 ++ (R' ++ Q))))).getD (j - 1) d0 = y) := ey
            rw [ex] at cx
            rw [ey] at cy
            have hsw : ((P ++ (M1 ++ (x :: (M2 ++ (R' ++ Q))))).set j y).set (j - 1) x = P ++ (M1' ++ (x :: ((y :: M2) ++ (R' ++ Q)))) := by
              have h1 := set_two (P ++ M1') y x (M2 ++ (R' ++ Q))
              rw [List.length_append, hj1, show j - 1 + 1 = j by omega] at h1
              rw [List.set_comm _ _ (by omega), hM1]
              simpa [List.append_assoc] using h1
            have hx64 : F64 [x] := fun q hq => by rw [List.mem_singleton.1 hq]; exact HF.out M (x :: R') hI2.out.2.2.2.2 x (by simp)
            have hy64 : F64 [y] := fun q hq => by rw [List.mem_singleton.1 hq]; exact HF.out M (x :: R') hI2.out.2.2.2.2 y (by rw [hJ.out.2.1, hM1]; simp)
            have hCmp := fun (wx : World) (hz : wx.cell? ⟨kb, 0, none⟩ = some (.func (.func 54) #[] #[])) => Compare_any kb x y wx hx64 hy64 hz
            have c1 : decide ((j : Int) > (a : Int)) = true := decide_eq_true (by omega)
            have c1n : a < j := hja
            have c2 : (j : Int) < (n : Int) := by omega
            have hjm : IntKind.i64.wrap ((j : Int) - 1) = ((j - 1 : Nat) : Int) := by rw [IntWalk.i64_left, show (j : Int) - 1 = ((j - 1 : Nat) : Int) by omega]; exact IntWalk.wrap64_in _ (by omega)
            have c3 : ((j - 1 : Nat) : Int) < (n : Int) := by omega
            have hcl := cmpI_lt x y
            obtain ⟨jm, hjmm⟩ : ∃ jm, j - 1 = jm := ⟨_, rfl⟩
            have HJM : Hid (jm + 1 = j) := by show _ = _; omega
            have EY : Hid ((P ++ (M1 ++ (x :: (M2 ++ (R' ++ Q))))).getD jm d0 = y) := by rw [← hjmm]; exact EY0
            rw [hjmm] at hjm c3 cy hsw
            generalize cmpQ (kI x) (kI y) = r at hCmp hcl
            obtain ⟨cx0, cx1, cx2, cx3, cx4, gcx0, gcx1, gcx2, gcx3, gcx4⟩ := cx
            obtain ⟨cy0, cy1, cy2, cy3, cy4, gcy0, gcy1, gcy2, gcy3, gcy4⟩ := cy
            by_cases hlt : kI x < kI y
            · rw [decide_eq_true hlt] at hcl
              have HJ2 : Hid (a + M1'.length = jm ∧ M = M1' ++ (y :: M2) ∧ ∀ z ∈ (y :: M2), kI x < kI z) := by
                have h5 := hJ.out
                have h8 := HJM.out
                refine ⟨by have := h5.1; rw [hM1] at this; simp at this; omega, by rw [h5.2.1, hM1]; simp, ?_⟩
                intro z hz
                rcases List.mem_cons.1 hz with rfl | hz
                · exact hlt
                · exact h5.2.2 z hz
              have HSW : Hid (((P ++ (M1 ++ (x :: (M2 ++ (R' ++ Q))))).set j y).set jm x = P ++ (M1' ++ (x :: ((y :: M2) ++ (R' ++ Q))))) := hsw
              clear hlt hW2 ex ey hsw hM1 hJ HEND hj1 hjmm hja hx64 hy64
              go_wp2_with fail
              refine region_keepQ (Keep.refl wr) (by kernel_rfl) (by kernel_rfl) ?_
              repeat
                with_reducible refine wpQuiet_step ?_
                intro K hK
                go_simp
                first
                  | (with_reducible refine hK _ ?_; clear hK K)
                  | (with_reducible refine (if_neg ?_).mpr (hK _ ?_)
                     · decide
                     clear hK K)
                  | (apply Exists.intro
                     with_reducible refine ⟨fun wq hq => ?_, hK _ ?_⟩
                     · first
                         | with_reducible rfl
                         | with_reducible exact (hCmp wq (hq.cell zk)).mono fun e w'' h => ⟨h.1, hq.trans h.2⟩
                         | (have qcx0 := hq.cell cx0; have qcx1 := hq.cell cx1; have qcx2 := hq.cell cx2; have qcx3 := hq.cell cx3; have qcx4 := hq.cell cx4; have qcy0 := hq.cell cy0; have qcy1 := hq.cell cy1; have qcy2 := hq.cell cy2; have qcy3 := hq.cell cy3; have qcy4 := hq.cell cy4; go_simp; with_reducible rfl)
                     clear hK K)
              with_reducible refine wpQuiet_nil ?_
              intro wv kv3
              go_simp
              have hWv := hW.out.keep kv3
              have kv := kj.keep kv3
              clear cx0 cx1 cx2 cx3 cx4 cy0 cy1 cy2 cy3 cy4 gcx0 gcx1 gcx2 gcx3 gcx4 gcy0 gcy1 gcy2 gcy3 gcy4
              have cx := hWv.cell (j := j) (by rw [HL.out]; exact hjn)
              have cy := hWv.cell (j := jm) (by rw [HL.out]; have := HJM.out; omega)
              rw [EX.out] at cx
              rw [EY.out] at cy
              obtain ⟨cx0, cx1, cx2, cx3, cx4, gcx0, gcx1, gcx2, gcx3, gcx4⟩ := cx
              obtain ⟨cy0, cy1, cy2, cy3, cy4, gcy0, gcy1, gcy2, gcy3, gcy4⟩ := cy
              obtain ⟨q1, q2⟩ := hWv.swap kv j jm (x := x) (y := y) (by rw [HL.out]; exact hjn) (by rw [HL.out]; have := HJM.out; omega)
              rw [HSW.out] at q1
              replace q1 : Hid _ := q1
              replace q2 : Hid _ := q2
              clear hWv kv hW
              have hne : j ≠ jm := by have := HJM.out; omega
              go_wp2_with fail
              go_region
              all_goals
                go_wp2_with fail
                refine ⟨⟨jm, M1', y :: M2, rfl, by have := HJ2.out; omega, by have := HJM.out; omega, HJ2, Arr.drew q1.out, Oth.drew q2.out⟩, ?_⟩
                have := HJM.out
                simp [intOf]
                omega
            · rw [decide_eq_false hlt] at hcl
              have HLE : Hid (∀ z ∈ M1, kI z ≤ kI x) := by
                intro z hz
                have hs := hI2.out.2.2.2.1
                rw [hJ.out.2.1, hM1] at hs
                have hs1 := (List.pairwise_append.1 hs).1
                rw [hM1] at hz
                rcases List.mem_append.1 hz with q | q
                · have := (List.pairwise_append.1 hs1).2.2 z q y (by simp)
                  omega
                · rw [List.mem_singleton.1 q]; omega
              clear hlt hW2 ex ey hsw hM1 hJ hj1 hjmm hja hx64 hy64
              go_wp2_with fail
              refine region_keepQ (Keep.refl wr) (by kernel_rfl) (by kernel_rfl) ?_
              repeat
                with_reducible refine wpQuiet_step ?_
                intro K hK
                go_simp
                first
                  | (with_reducible refine hK _ ?_; clear hK K)
                  | (with_reducible refine (if_neg ?_).mpr (hK _ ?_)
                     · decide
                     clear hK K)
                  | (apply Exists.intro
                     with_reducible refine ⟨fun wq hq => ?_, hK _ ?_⟩
                     · first
                         | with_reducible rfl
                         | with_reducible exact (hCmp wq (hq.cell zk)).mono fun e w'' h => ⟨h.1, hq.trans h.2⟩
                         | (have qcx0 := hq.cell cx0; have qcx1 := hq.cell cx1; have qcx2 := hq.cell cx2; have qcx3 := hq.cell cx3; have qcx4 := hq.cell cx4; have qcy0 := hq.cell cy0; have qcy1 := hq.cell cy1; have qcy2 := hq.cell cy2; have qcy3 := hq.cell cy3; have qcy4 := hq.cell cy4; go_simp; with_reducible rfl)
                     clear hK K)
              with_reducible refine wpQuiet_nil ?_
              intro wv kv3
              go_simp
              go_wp2_with fail
              obtain ⟨z1, z2⟩ := HEND.out _ (hW.out.keep kv3) HLE.out
              refine ⟨⟨i + 1, M1 ++ x :: M2, R', by go_num, by have := HIB.out; omega, z1, z2, (ko.trans kj).keep kv3⟩, ?_⟩
              have := HIB.out
              simp [intOf]
              omega
          · have c1 : decide ((j : Int) > (a : Int)) = false := decide_eq_false (by omega)
            have c1n : ¬ a < j := hja
            have HLE : Hid (∀ z ∈ M1, kI z ≤ kI x) := by
              intro z hz
              have := hJ.out.1
              have : M1 = [] := List.eq_nil_of_length_eq_zero (by omega)
              rw [this] at hz
              cases hz
            clear hja hJ
            go_wp2_with fail
            refine region_keepQ (Keep.refl wr) (by kernel_rfl) (by kernel_rfl) ?_
            repeat
              with_reducible refine wpQuiet_step ?_
              intro K hK
              go_simp
              first
                | (with_reducible refine hK _ ?_; clear hK K)
                | (with_reducible refine (if_neg ?_).mpr (hK _ ?_)
                   · decide
                   clear hK K)
                | (apply Exists.intro
                   with_reducible refine ⟨fun wq hq => ?_, hK _ ?_⟩
                   · first
                       | with_reducible rfl
                       | with_reducible exact (hCmp wq (hq.cell zk)).mono fun e w'' h => ⟨h.1, hq.trans h.2⟩
                       | (have qcx0 := hq.cell cx0; have qcx1 := hq.cell cx1; have qcx2 := hq.cell cx2; have qcx3 := hq.cell cx3; have qcx4 := hq.cell cx4; have qcy0 := hq.cell cy0; have qcy1 := hq.cell cy1; have qcy2 := hq.cell cy2; have qcy3 := hq.cell cy3; have qcy4 := hq.cell cy4; go_simp; with_reducible rfl)
                   clear hK K)
            with_reducible refine wpQuiet_nil ?_
            intro wv kv3
            go_simp
            go_wp2_with fail
            obtain ⟨z1, z2⟩ := HEND.out _ (hW.out.keep kv3) HLE.out
            refine ⟨⟨i + 1, M1 ++ x :: M2, R', by go_num, by have := HIB.out; omega, z1, z2, (ko.trans kj).keep kv3⟩, ?_⟩
            have := HIB.out
            simp [intOf]
            omega
      · have hic : ¬ (i : Int) < (b : Int) := by omega
        have hRn : Hid (R = []) := by
          show _ = _
          have h1 := hI.out; have h2 := HB.out
          exact List.eq_nil_of_length_eq_zero (by omega)
        go_wp2_with fail
        go_end0
        have h1 := hI.out
        have h2 := hR.out
        rw [hRn.out] at h1 h2
        exact ⟨⟨_, rfl⟩, ⟨M, by simpa using h1.2.2.1, h1.2.2.2.1, by simpa using h1.2.2.2.2, h2⟩, ko⟩
end Go.Proofs.Ytaogjiffnebnkaa.Cu
set_option linter.unusedVariables false
set_option linter.unusedSimpArgs false
namespace Go.Proofs.Ytaogjiffnebnkaa.Cu
open Go.RowKit
/-- Two stretches of one length, by what lies there. -/
theorem swap_parts (kb g c n m a b : Nat) (P U R V Q : List It) (w : World) (hn : (P ++ (U ++ (R ++ (V ++ Q)))).length = n) (hl : n ≤ 17592186044416) (hU : U.length = m) (hV : V.length = m) (ha : P.length = a) (hb : a + m + R.length = b) (hA : Arr kb w g (P ++ (U ++ (R ++ (V ++ Q))))) :
    Calls Try.prog 124 #[.slice (some ⟨g, 0, none⟩) n c, .int .i64 (a : Int), .int .i64 (b : Int), .int .i64 (m : Int), cmpF kb] w fun e w' => (∃ v, e = .returned v) ∧ Arr kb w' g (P ++ (V ++ (R ++ (U ++ Q)))) ∧ Oth g w w' := by
  have hlen : (P ++ (U ++ (R ++ (V ++ Q)))).length = P.length + U.length + R.length + V.length + Q.length := by simp; omega
  have h := swapRange_any kb g c a b m (P ++ (U ++ (R ++ (V ++ Q)))) w (by omega) (by omega) (by omega) hA
  rw [hn] at h
  have e := swF_all d0 P U R V Q (by omega)
  rw [hU, ha, hb] at e
  rw [e] at h
  exact h
set_option maxRecDepth 100000 in
set_option maxHeartbeats 2000000 in
theorem rotate_any (kb g c n a m b : Nat) (P U V Q : List It) (w : World) (hn : (P ++ (U ++ (V ++ Q))).length = n) (hl : n ≤ 17592186044416) (ha : P.length = a) (hm : a + U.length = m) (hb : m + V.length = b) (hU : 1 ≤ U.length) (hV : 1 ≤ V.length) (hA : Arr kb w g (P ++ (U ++ (V ++ Q)))) :
    Calls Try.prog 117 #[.slice (some ⟨g, 0, none⟩) n c, .int .i64 (a : Int), .int .i64 (m : Int), .int .i64 (b : Int), cmpF kb] w fun e w' => (∃ v, e = .returned v) ∧ Arr kb w' g (P ++ (V ++ (U ++ Q))) ∧ Oth g w w' := by
  obtain ⟨i0, hi0⟩ : ∃ i0, U.length = i0 := ⟨_, rfl⟩
  obtain ⟨j0, hj0⟩ : ∃ j0, V.length = j0 := ⟨_, rfl⟩
  have HN : Hid (P.length + U.length + V.length + Q.length = n) := by show _ = _; rw [← hn]; simp; omega
  have e1 : (m : Int) - (a : Int) = (i0 : Int) := by omega
  have e2 : (b : Int) - (m : Int) = (j0 : Int) := by omega
  have HP : Hid (P.length = a) := ha
  have HU : Hid (U.length = i0 ∧ V.length = j0 ∧ 1 ≤ i0 ∧ 1 ≤ j0 ∧ a + i0 = m ∧ m + j0 = b) := ⟨hi0, hj0, by omega, by omega, by omega, by omega⟩
  have hA0 : Hid (Arr kb w g (P ++ ([] ++ (U ++ (V ++ ([] ++ Q)))))) := hA
  have hbn : b ≤ n := by have := HN.out; omega
  have hmb : m ≤ b := by omega
  clear hn ha hm hb hU hV hi0 hj0 hA
  go_enter Try.func117, Try.ntmps117
  go_wp2_with fail
  go_loopw [10, 11] (fun iv jv wr => ∃ (i j : Nat) (X U' V' Y : List It), iv = .int .i64 (i : Int) ∧ jv = .int .i64 (j : Int) ∧ i ≤ m ∧ m + j ≤ b ∧ Hid (1 ≤ i ∧ 1 ≤ j ∧ U'.length = i ∧ V'.length = j ∧ a + X.length + i = m ∧ V ++ U = X ++ (V' ++ (U' ++ Y)) ∧ m + j + Y.length = b) ∧ Hid (Arr kb wr g (P ++ (X ++ (U' ++ (V' ++ (Y ++ Q)))))) ∧ Oth g w wr) (fun iv jv _ => (intOf iv).toNat + (intOf jv).toNat)
  case atStart =>
    have h := HU.out
    exact ⟨i0, j0, [], U, V, [], rfl, rfl, by omega, by omega, ⟨by omega, by omega, h.1, h.2.1, by simp; omega, by simp, by simp; omega⟩, hA0, Oth.refl _ _⟩
  case round =>
    obtain ⟨i, j, X, U', V', Y, rfl, rfl, him, hjb, hI, hW, ko⟩ := hrel
    have HLEN : Hid (P.length + X.length + U'.length + V'.length + Y.length + Q.length = n) := by
      show _ = _
      have h1 := HN.out; have h2 := hI.out; have h3 := HP.out; have h4 := HU.out
      omega
    obtain ⟨p, hp⟩ : ∃ p, m - i = p := ⟨_, rfl⟩
    have HPX : Hid ((P ++ X).length = p ∧ p + i = m) := by
      have h2 := hI.out; have h3 := HP.out
      exact ⟨by simp; omega, by omega⟩
    have e3 : (m : Int) - (i : Int) = (p : Int) := by omega
    clear hp
    rcases Nat.lt_trichotomy i j with hij | hij | hij
    · have c1 : ((i : Int) != (j : Int)) = true := by rw [bne_iff_ne]; omega
      have c2 : decide ((i : Int) > (j : Int)) = false := decide_eq_false (by omega)
      have c2n : ¬ j < i := by omega
      obtain ⟨q, hq⟩ : ∃ q, m + j - i = q := ⟨_, rfl⟩
      obtain ⟨d, hd⟩ : ∃ d, j - i = d := ⟨_, rfl⟩
      have e4 : (m : Int) + (j : Int) - (i : Int) = (q : Int) := by omega
      have e5 : (j : Int) - (i : Int) = (d : Int) := by omega
      have HD : Hid (d + i = j ∧ 1 ≤ d ∧ q = m + d) := ⟨by omega, by omega, by omega⟩
      have hs : Calls Try.prog 124 #[.slice (some ⟨g, 0, none⟩) n c, .int .i64 (p : Int), .int .i64 (q : Int), .int .i64 (i : Int), cmpF kb] wr fun e w' => (∃ v, e = .returned v) ∧ Arr kb w' g ((P ++ X) ++ (V'.drop d ++ (V'.take d ++ (U' ++ (Y ++ Q))))) ∧ Oth g wr w' := by
        have h1 := hI.out; have h2 := HPX.out; have h3 := HD.out; have h4 := HLEN.out
        have hdl : (V'.drop d).length = i := by simp; omega
        have htl : (V'.take d).length = d := by simp; omega
        have hA := hW.out
        have hsp : P ++ (X ++ (U' ++ (V' ++ (Y ++ Q)))) = (P ++ X) ++ (U' ++ (V'.take d ++ (V'.drop d ++ (Y ++ Q)))) := by
          rw [← List.append_assoc (V'.take d), List.take_append_drop]; simp
        rw [hsp] at hA
        exact swap_parts kb g c n i p q (P ++ X) U' (V'.take d) (V'.drop d) (Y ++ Q) wr (by rw [← hsp]; simp; omega) hl h1.2.2.1 hdl h2.1 (by rw [htl]; omega) hA
      have HX : Hid (i ≤ m ∧ m + d ≤ b ∧ (1 ≤ i ∧ 1 ≤ d ∧ (V'.drop d).length = i ∧ (V'.take d).length = d ∧ a + X.length + i = m ∧ V ++ U = X ++ (V'.take d ++ (V'.drop d ++ (U' ++ Y))) ∧ m + d + (U' ++ Y).length = b)) := by
        have h1 := hI.out; have h3 := HD.out
        refine ⟨by omega, by omega, h1.1, h3.2.1, by simp; omega, by simp; omega, h1.2.2.2.2.1, ?_, by simp; omega⟩
        rw [h1.2.2.2.2.2.1, ← List.append_assoc (V'.take d), List.take_append_drop]
      clear hij hq hd
      go_wp2_with (go_at_call 124; refine hs.mono ?_; rintro e w2 ⟨⟨v, rfl⟩, hA2, k2⟩; replace hA2 : Hid _ := hA2)
      refine ⟨⟨i, d, X, V'.drop d, V'.take d, U' ++ Y, rfl, rfl, HX.out.1, HX.out.2.1, HX.out.2.2, ?_, ko.trans k2⟩, ?_⟩
      · have e : P ++ (X ++ (V'.drop d ++ (V'.take d ++ ((U' ++ Y) ++ Q)))) = (P ++ X) ++ (V'.drop d ++ (V'.take d ++ (U' ++ (Y ++ Q)))) := by simp only [List.append_assoc]
        show Arr kb _ _ _
        rw [e]
        exact hA2.out
      · have := HD.out; have := HX.out.2.2.1; simp [intOf]; omega
    · subst hij
      have c1 : ((i : Int) != (i : Int)) = false := by simp
      have hs : Calls Try.prog 124 #[.slice (some ⟨g, 0, none⟩) n c, .int .i64 (p : Int), .int .i64 (m : Int), .int .i64 (i : Int), cmpF kb] wr fun e w' => (∃ v, e = .returned v) ∧ Arr kb w' g ((P ++ X) ++ (V' ++ ([] ++ (U' ++ (Y ++ Q))))) ∧ Oth g wr w' := by
        have h1 := hI.out; have h2 := HPX.out; have h4 := HLEN.out
        have hA := hW.out
        have hsp : P ++ (X ++ (U' ++ (V' ++ (Y ++ Q)))) = (P ++ X) ++ (U' ++ ([] ++ (V' ++ (Y ++ Q)))) := by simp
        rw [hsp] at hA
        exact swap_parts kb g c n i p m (P ++ X) U' [] V' (Y ++ Q) wr (by rw [← hsp]; simp; omega) hl h1.2.2.1 h1.2.2.2.1 h2.1 (by simp; omega) hA
      go_wp2_with (go_at_call 124; refine hs.mono ?_; rintro e w2 ⟨⟨v, rfl⟩, hA2, k2⟩; replace hA2 : Hid _ := hA2)
      go_end0
      refine ⟨⟨_, rfl⟩, ?_, ko.trans k2⟩
      have h1 := hI.out.2.2.2.2.2.1
      have e : P ++ (V ++ (U ++ Q)) = (P ++ X) ++ (V' ++ ([] ++ (U' ++ (Y ++ Q)))) := by
        rw [← List.append_assoc V, h1]
        simp only [List.append_assoc, List.nil_append]
      rw [e]
      exact hA2.out
    · have c1 : ((i : Int) != (j : Int)) = true := by rw [bne_iff_ne]; omega
      have c2 : decide ((i : Int) > (j : Int)) = true := decide_eq_true (by omega)
      have c2n : j < i := hij
      obtain ⟨d, hd⟩ : ∃ d, i - j = d := ⟨_, rfl⟩
      have e5 : (i : Int) - (j : Int) = (d : Int) := by omega
      have HD : Hid (d + j = i ∧ 1 ≤ d) := ⟨by omega, by omega⟩
      have hs : Calls Try.prog 124 #[.slice (some ⟨g, 0, none⟩) n c, .int .i64 (p : Int), .int .i64 (m : Int), .int .i64 (j : Int), cmpF kb] wr fun e w' => (∃ v, e = .returned v) ∧ Arr kb w' g ((P ++ X) ++ (V' ++ (U'.drop j ++ (U'.take j ++ (Y ++ Q))))) ∧ Oth g wr w' := by
        have h1 := hI.out; have h2 := HPX.out; have h3 := HD.out; have h4 := HLEN.out
        have hdl : (U'.drop j).length = d := by simp; omega
        have htl : (U'.take j).length = j := by simp; omega
        have hA := hW.out
        have hsp : P ++ (X ++ (U' ++ (V' ++ (Y ++ Q)))) = (P ++ X) ++ (U'.take j ++ (U'.drop j ++ (V' ++ (Y ++ Q)))) := by
          rw [← List.append_assoc (U'.take j), List.take_append_drop]; simp
        rw [hsp] at hA
        exact swap_parts kb g c n j p m (P ++ X) (U'.take j) (U'.drop j) V' (Y ++ Q) wr (by rw [← hsp]; simp; omega) hl htl h1.2.2.2.1 h2.1 (by rw [hdl]; omega) hA
      have HX : Hid (d ≤ m ∧ m + j ≤ b ∧ (1 ≤ d ∧ 1 ≤ j ∧ (U'.drop j).length = d ∧ (U'.take j).length = j ∧ a + (X ++ V').length + d = m ∧ V ++ U = (X ++ V') ++ (U'.take j ++ (U'.drop j ++ Y)) ∧ m + j + Y.length = b)) := by
        have h1 := hI.out; have h3 := HD.out
        refine ⟨by omega, by omega, h3.2, h1.2.1, by simp; omega, by simp; omega, by simp; omega, ?_, h1.2.2.2.2.2.2⟩
        rw [h1.2.2.2.2.2.1, ← List.append_assoc (U'.take j), List.take_append_drop, List.append_assoc]
      clear hij hd
      go_wp2_with (go_at_call 124; refine hs.mono ?_; rintro e w2 ⟨⟨v, rfl⟩, hA2, k2⟩; replace hA2 : Hid _ := hA2)
      refine ⟨⟨d, j, X ++ V', U'.drop j, U'.take j, Y, rfl, rfl, HX.out.1, HX.out.2.1, HX.out.2.2, ?_, ko.trans k2⟩, ?_⟩
      · have e : P ++ ((X ++ V') ++ (U'.drop j ++ (U'.take j ++ (Y ++ Q)))) = (P ++ X) ++ (V' ++ (U'.drop j ++ (U'.take j ++ (Y ++ Q)))) := by simp only [List.append_assoc]
        show Arr kb _ _ _
        rw [e]
        exact hA2.out
      · have := HD.out; have := HX.out.2.2.2.1; simp [intOf]; omega
end Go.Proofs.Ytaogjiffnebnkaa.Cu
set_option linter.unusedVariables false
set_option linter.unusedSimpArgs false
namespace Go.Proofs.Ytaogjiffnebnkaa.Cu
open Go.RowKit
attribute [local go_sem] run_store_float
set_option maxRecDepth 100000 in
set_option maxHeartbeats 2000000 in
/-- One item merged with those behind it. -/
theorem sym_left (kb g c n a m b : Nat) (x : It) (P B Q : List It) (w : World) (hF : F64 (P ++ (x :: (B ++ Q)))) (hn : (P ++ (x :: (B ++ Q))).length = n) (hl : n ≤ 17592186044416) (ha : P.length = a) (hm : a + 1 = m) (hb : m + B.length = b) (hs : srt kI B) (hA : Arr kb w g (P ++ (x :: (B ++ Q)))) :
    Calls Try.prog 106 #[.slice (some ⟨g, 0, none⟩) n c, .int .i64 (a : Int), .int .i64 (m : Int), .int .i64 (b : Int), cmpF kb] w fun e w' => (∃ v, e = .returned v) ∧ (∃ M, M.length = B.length + 1 ∧ srt kI M ∧ eqv kI M ([x] ++ B) ∧ Arr kb w' g (P ++ (M ++ Q))) ∧ Oth g w w' := by
  have HN : Hid (P.length + B.length + Q.length + 1 = n) := by show _ = _; rw [← hn]; simp; omega
  have e1 : (m : Int) - (a : Int) = 1 := by omega
  have hbn : b ≤ n := by have := HN.out; omega
  have hmb : m ≤ b := by omega
  have ham : a < m := by omega
  have HP : Hid (P.length = a ∧ a + 1 = m ∧ m + B.length = b) := ⟨ha, hm, hb⟩
  have EA : Hid ((P ++ (x :: (B ++ Q))).getD a d0 = x) := by
    show _ = _
    rw [getD_right d0 P _ (by omega), show a - P.length = 0 by omega]; rfl
  have EB : Hid (∀ u, u < B.length → (P ++ (x :: (B ++ Q))).getD (m + u) d0 = B.getD u d0) := by
    intro u hu
    rw [getD_right d0 P _ (by omega), show m + u - P.length = u + 1 by omega, List.getD_cons_succ, getD_left d0 _ _ hu]
  have hx64 : F64 [x] := fun q hq => by rw [List.mem_singleton.1 hq]; exact hF x (by simp)
  have HB64 : Hid (∀ u, u < B.length → F64 [B.getD u d0]) := by
    intro u hu q hq
    rw [List.mem_singleton.1 hq]
    exact hF _ (by simp [List.getD, hu])
  replace hn : Hid _ := hn
  replace hA : Hid (Arr kb w g (P ++ (x :: (B ++ Q)))) := hA
  replace hs : Hid _ := hs
  have hd1 : ((m : Int) - (a : Int) == 1) = true := by rw [e1]; rfl
  clear ha hm hb hF
  go_enter Try.func106, Try.ntmps106
  go_wp2_with fail
  go_loopw [10, 11] (fun iv jv wr => ∃ s t : Nat, iv = .int .i64 ((m + s : Nat) : Int) ∧ jv = .int .i64 ((m + t : Nat) : Int) ∧ s ≤ t ∧ m + t ≤ b ∧ Hid (∀ u, u < s → kI (B.getD u d0) < kI x) ∧ Hid (∀ u, t ≤ u → u < B.length → kI x ≤ kI (B.getD u d0)) ∧ Keep w wr) (fun iv jv _ => (intOf jv).toNat - (intOf iv).toNat)
  case atStart => 
    have h := HP.out
    exact ⟨0, B.length, rfl, by rw [h.2.2], by omega, by omega, fun u hu => by omega, fun u h1 h2 => by omega, Keep.refl w⟩
  case round =>
    obtain ⟨s, t, rfl, rfl, hst, htb, H1, H2, kq⟩ := hrel
    have hAq : Hid (Arr kb wr g (P ++ (x :: (B ++ Q)))) := hA.out.keep kq
    by_cases hlt : s < t
    · have hltc : ((m + s : Nat) : Int) < ((m + t : Nat) : Int) := by omega
      obtain ⟨u, hu⟩ : ∃ u, (s + t) / 2 = u := ⟨_, rfl⟩
      obtain ⟨h, hh0⟩ : ∃ h, m + u = h := ⟨_, rfl⟩
      have HH : Hid (m + u = h ∧ s ≤ u ∧ u < t) := ⟨hh0, by omega, by omega⟩
      have hh : ((m : Int) + (s : Int) + ((m : Int) + (t : Int))) / 2 = (h : Int) := by omega
      have hhn : h < n := by omega
      have hhc : (h : Int) < (n : Int) := by omega
      have hac : (a : Int) < (n : Int) := by omega
      have huB : u < B.length := by have := HP.out; omega
      have zk := hAq.out.box
      have ca := Arr.cell hAq.out (j := a) (by rw [hn.out]; omega)
      have ch := Arr.cell hAq.out (j := h) (by rw [hn.out]; omega)
      rw [EA.out] at ca
      rw [← hh0, EB.out u huB, hh0] at ch
      have hCmp := fun (wx : World) (hz : wx.cell? ⟨kb, 0, none⟩ = some (.func (.func 54) #[] #[])) => Compare_any kb (B.getD u d0) x wx (HB64.out u huB) hx64 hz
      have hcl := cmpI_lt (B.getD u d0) x
      have HU : Hid (u < B.length) := huB
      obtain ⟨y, hy⟩ : ∃ y, B.getD u d0 = y := ⟨_, rfl⟩
      have HY : Hid (B.getD u d0 = y) := hy
      rw [hy] at ch hCmp hcl
      generalize cmpQ (kI y) (kI x) = r at hCmp hcl
      obtain ⟨cx0, cx1, cx2, cx3, cx4, gcx0, gcx1, gcx2, gcx3, gcx4⟩ := ca
      obtain ⟨cy0, cy1, cy2, cy3, cy4, gcy0, gcy1, gcy2, gcy3, gcy4⟩ := ch
      clear hu hh0 huB hy
      by_cases hk : kI y < kI x
      · rw [decide_eq_true hk] at hcl
        have HK : Hid (kI y < kI x) := hk
        clear hk
        go_wp2_with fail
        refine region_keepQ (Keep.refl wr) (by kernel_rfl) (by kernel_rfl) ?_
        repeat
          with_reducible refine wpQuiet_step ?_
          intro K hK
          go_simp
          first
            | (with_reducible refine hK _ ?_; clear hK K)
            | (with_reducible refine (if_neg ?_).mpr (hK _ ?_)
               · decide
               clear hK K)
            | (apply Exists.intro
               with_reducible refine ⟨fun wq hq => ?_, hK _ ?_⟩
               · first
                   | with_reducible rfl
                   | with_reducible exact (hCmp wq (hq.cell zk)).mono fun e w'' h => ⟨h.1, hq.trans h.2⟩
                   | (have qcx0 := hq.cell cx0; have qcx1 := hq.cell cx1; have qcx2 := hq.cell cx2; have qcx3 := hq.cell cx3; have qcx4 := hq.cell cx4; have qcy0 := hq.cell cy0; have qcy1 := hq.cell cy1; have qcy2 := hq.cell cy2; have qcy3 := hq.cell cy3; have qcy4 := hq.cell cy4; go_simp; with_reducible rfl)
               clear hK K)
        with_reducible refine wpQuiet_nil ?_
        intro wv kv3
        go_simp
        go_wp2_with fail
        refine ⟨⟨u + 1, t, by have := HH.out; go_num, rfl, by have := HH.out; omega, htb, ?_, H2, kq.trans kv3⟩, ?_⟩
        · intro z hz
          have h1 := srt_get hs.out d0 (i := z) (j := u) (by omega) HU.out
          rw [HY.out] at h1
          have := HK.out
          omega
        · have := HH.out; simp [intOf]; omega
      · rw [decide_eq_false hk] at hcl
        have HK : Hid (¬ kI y < kI x) := hk
        clear hk
        go_wp2_with fail
        refine region_keepQ (Keep.refl wr) (by kernel_rfl) (by kernel_rfl) ?_
        repeat
          with_reducible refine wpQuiet_step ?_
          intro K hK
          go_simp
          first
            | (with_reducible refine hK _ ?_; clear hK K)
            | (with_reducible refine (if_neg ?_).mpr (hK _ ?_)
               · decide
               clear hK K)
            | (apply Exists.intro
               with_reducible refine ⟨fun wq hq => ?_, hK _ ?_⟩
               · first
                   | with_reducible rfl
                   | with_reducible exact (hCmp wq (hq.cell zk)).mono fun e w'' h => ⟨h.1, hq.trans h.2⟩
                   | (have qcx0 := hq.cell cx0; have qcx1 := hq.cell cx1; have qcx2 := hq.cell cx2; have qcx3 := hq.cell cx3; have qcx4 := hq.cell cx4; have qcy0 := hq.cell cy0; have qcy1 := hq.cell cy1; have qcy2 := hq.cell cy2; have qcy3 := hq.cell cy3; have qcy4 := hq.cell cy4; go_simp; with_reducible rfl)
               clear hK K)
        with_reducible refine wpQuiet_nil ?_
        intro wv kv3
        go_simp
        go_wp2_with fail
        refine ⟨⟨s, u, rfl, by have := HH.out; go_num, by have := HH.out; omega, by have := HH.out; omega, H1, ?_, kq.trans kv3⟩, ?_⟩
        · intro z h1 h2
          have h3 := srt_get hs.out d0 (i := u) (j := z) h1 h2
          rw [HY.out] at h3
          have := HK.out
          omega
        · have := HH.out; simp [intOf]; omega
    · have hltc : ¬ ((m + s : Nat) : Int) < ((m + t : Nat) : Int) := by omega
      obtain rfl : s = t := by omega
      have HS : Hid (s ≤ B.length) := by have := HP.out; show _ ≤ _; omega
      have hA2 : Hid (Arr kb wr g (P ++ (B.take 0 ++ (x :: (B.drop 0 ++ Q))))) := hAq.out
      have kA2 : Oth g w wr := (Oth.refl g w).keep kq
      obtain ⟨wv, hwv⟩ : ∃ wv, wv = wr := ⟨_, rfl⟩
      subst hwv
      have ham2 : a + 1 = m := HP.out.2.1
      have HAM : Hid (a + 1 = m) := ham2
      have hms : ((m + s : Nat) : Int) - 1 = ((a + s : Nat) : Int) := by omega
      clear ham2
      go_wp2_with fail
      go_loopw [13] (fun kv wr => ∃ v : Nat, kv = .int .i64 ((a + v : Nat) : Int) ∧ v ≤ s ∧ Hid (Arr kb wr g (P ++ (B.take v ++ (x :: (B.drop v ++ Q))))) ∧ Oth g w wr) (fun kv _ => a + s - (intOf kv).toNat)
      case atStart => exact ⟨0, rfl, by omega, hA2, kA2⟩
      case round =>
        obtain ⟨v, rfl, hv, hW, kw⟩ := hrel
        by_cases hvs : v < s
        · have hvc : ((a + v : Nat) : Int) < ((a + s : Nat) : Int) := by omega
          have hvB : v < B.length := by have := HS.out; omega
          obtain ⟨y, hy⟩ : ∃ y, B.getD v d0 = y := ⟨_, rfl⟩
          have hdr : B.drop v = y :: B.drop (v + 1) := by
            rw [List.drop_eq_getElem_cons hvB, ← hy]; simp [List.getD, hvB]
          have htk : B.take (v + 1) = B.take v ++ [y] := by
            rw [List.take_add_one, ← hy]; simp [List.getD, hvB]
          have hW2 : Arr kb wr g (P ++ (B.take v ++ (x :: (y :: (B.drop (v + 1) ++ Q))))) := by
            have := hW.out
            rw [hdr] at this
            exact this
          obtain ⟨k, hk⟩ : ∃ k, a + v = k := ⟨_, rfl⟩
          have hpl : (P ++ B.take v).length = k := by have := HP.out; simp; omega
          have hL2 : (P ++ (B.take v ++ (x :: (y :: (B.drop (v + 1) ++ Q))))).length = n := by have := HN.out; simp; omega
          have hkn : k + 1 < n := by have := HN.out; have := HP.out; omega
          have cx := Arr.cell hW2 (j := k) (by omega)
          have cy := Arr.cell hW2 (j := k + 1) (by omega)
          have ex : (P ++ (B.take v ++ (x :: (y :: (B.drop (v + 1) ++ Q))))).getD k d0 = x := by
            rw [← List.append_assoc, getD_right d0 _ _ (by omega), show k - (P ++ B.take v).length = 0 by omega]; rfl
          have ey : (P ++ (B.take v ++ (x :: (y :: (B.drop (v + 1) ++ Q))))).getD (k + 1) d0 = y := by
            rw [← List.append_assoc, getD_right d0 _ _ (by omega), show k + 1 - (P ++ B.take v).length = 1 by omega]; rfl
          rw [ex] at cx
          rw [ey] at cy
          obtain ⟨cx0, cx1, cx2, cx3, cx4, gcx0, gcx1, gcx2, gcx3, gcx4⟩ := cx
          obtain ⟨cy0, cy1, cy2, cy3, cy4, gcy0, gcy1, gcy2, gcy3, gcy4⟩ := cy
          have hsw : ((P ++ (B.take v ++ (x :: (y :: (B.drop (v + 1) ++ Q))))).set k y).set (k + 1) x = P ++ (B.take (v + 1) ++ (x :: (B.drop (v + 1) ++ Q))) := by
            have h1 := set_two (P ++ B.take v) x y (B.drop (v + 1) ++ Q)
            rw [hpl] at h1
            rw [htk]
            simpa only [List.append_assoc, List.cons_append, List.nil_append] using h1
          obtain ⟨q1, q2⟩ := Arr.swap hW2 kw k (k + 1) (x := x) (y := y) (by omega) (by omega)
          rw [hsw] at q1
          replace q1 : Hid _ := q1
          replace q2 : Hid _ := q2
          have c1 : (k : Int) < (n : Int) := by omega
          have c2 : (k : Int) + 1 < (n : Int) := by omega
          have HV : Hid (v < s ∧ a + v = k) := ⟨hvs, hk⟩
          have hkc : (k : Int) < ((a + s : Nat) : Int) := by omega
          rw [hk] at hvc ⊢
          clear hW hW2 hdr htk hpl hL2 ex ey hsw kw hvs hy hvB hk hv
          go_wp2_with fail
          go_region
          all_goals
            go_wp2_with fail
            refine ⟨⟨v + 1, by have := HV.out; go_num, by have := HV.out; omega, Arr.drew q1.out, Oth.drew q2.out⟩, ?_⟩
            have := HV.out
            simp [intOf]
            omega
        · have hvc : ¬ ((a + v : Nat) : Int) < ((a + s : Nat) : Int) := by omega
          obtain rfl : v = s := by omega
          go_wp2_with fail
          refine bodyPost_ret (results_none rfl _ _ _) rfl ?_
          obtain ⟨p1, p2⟩ := put_left (key := kI) (x := x) (B1 := B.take v) (B2 := B.drop v) (by rw [List.take_append_drop]; exact hs.out) (by
            intro y hy
            obtain ⟨i, hi, rfl⟩ := List.getElem_of_mem hy
            rw [List.length_take] at hi
            rw [List.getElem_take]
            have := H1.out i (by omega)
            simpa [List.getD, show i < B.length by omega] using this) (by
            intro y hy
            obtain ⟨i, hi, rfl⟩ := List.getElem_of_mem hy
            rw [List.length_drop] at hi
            rw [List.getElem_drop]
            have := H2.out (v + i) (by omega) (by omega)
            simpa [List.getD, show v + i < B.length by omega] using this)
          rw [List.take_append_drop] at p2
          have hv2 := HS.out
          refine ⟨⟨_, rfl⟩, ⟨B.take v ++ x :: B.drop v, by simp; omega, p1, p2, ?_⟩, kw⟩
          have := hW.out
          simpa only [List.append_assoc, List.cons_append] using this
end Go.Proofs.Ytaogjiffnebnkaa.Cu
set_option linter.unusedVariables false
set_option linter.unusedSimpArgs false
namespace Go.Proofs.Ytaogjiffnebnkaa.Cu
open Go.RowKit
attribute [local go_sem] run_store_float
set_option maxRecDepth 100000 in
set_option maxHeartbeats 2000000 in
/-- One item merged with those ahead of it. -/
theorem sym_right (kb g c n a m b : Nat) (y : It) (P A Q : List It) (w : World) (hF : F64 (P ++ (A ++ (y :: Q)))) (hn : (P ++ (A ++ (y :: Q))).length = n) (hl : n ≤ 17592186044416) (ha : P.length = a) (hm : a + A.length = m) (hb : m + 1 = b) (hA1 : A.length ≠ 1) (hs : srt kI A) (hA : Arr kb w g (P ++ (A ++ (y :: Q)))) :
    Calls Try.prog 106 #[.slice (some ⟨g, 0, none⟩) n c, .int .i64 (a : Int), .int .i64 (m : Int), .int .i64 (b : Int), cmpF kb] w fun e w' => (∃ v, e = .returned v) ∧ (∃ M, M.length = A.length + 1 ∧ srt kI M ∧ eqv kI M (A ++ [y]) ∧ Arr kb w' g (P ++ (M ++ Q))) ∧ Oth g w w' := by
  have HN : Hid (P.length + A.length + Q.length + 1 = n) := by show _ = _; rw [← hn]; simp; omega
  have hd0 : ((m : Int) - (a : Int) == 1) = false := by rw [beq_eq_false_iff_ne]; omega
  have hd1 : ((b : Int) - (m : Int) == 1) = true := by rw [beq_iff_eq]; omega
  have hbn : b ≤ n := by have := HN.out; omega
  have hmb : m < b := by omega
  have ham : a ≤ m := by omega
  have HP : Hid (P.length = a ∧ a + A.length = m ∧ m + 1 = b) := ⟨ha, hm, hb⟩
  have EM : Hid ((P ++ (A ++ (y :: Q))).getD m d0 = y) := by
    show _ = _
    rw [getD_right d0 P _ (by omega), getD_right d0 A _ (by omega), show m - P.length - A.length = 0 by omega]; rfl
  have EA : Hid (∀ u, u < A.length → (P ++ (A ++ (y :: Q))).getD (a + u) d0 = A.getD u d0) := by
    intro u hu
    rw [getD_right d0 P _ (by omega), show a + u - P.length = u by omega, getD_left d0 _ _ hu]
  have hy64 : F64 [y] := fun q hq => by rw [List.mem_singleton.1 hq]; exact hF y (by simp)
  have HA64 : Hid (∀ u, u < A.length → F64 [A.getD u d0]) := by
    intro u hu q hq
    rw [List.mem_singleton.1 hq]
    exact hF _ (by simp [List.getD, hu])
  replace hn : Hid _ := hn
  replace hA : Hid (Arr kb w g (P ++ (A ++ (y :: Q)))) := hA
  replace hs : Hid _ := hs
  clear ha hm hb hF hA1
  go_enter Try.func106, Try.ntmps106
  go_wp2_with fail
  go_loopw [14, 15] (fun iv jv wr => ∃ s t : Nat, iv = .int .i64 ((a + s : Nat) : Int) ∧ jv = .int .i64 ((a + t : Nat) : Int) ∧ s ≤ t ∧ a + t ≤ m ∧ Hid (∀ u, u < s → kI (A.getD u d0) ≤ kI y) ∧ Hid (∀ u, t ≤ u → u < A.length → kI y < kI (A.getD u d0)) ∧ Keep w wr) (fun iv jv _ => (intOf jv).toNat - (intOf iv).toNat)
  case atStart =>
    have h := HP.out
    exact ⟨0, A.length, rfl, by rw [h.2.1], by omega, by omega, fun u hu => by omega, fun u h1 h2 => by omega, Keep.refl w⟩
  case round =>
    obtain ⟨s, t, rfl, rfl, hst, htb, H1, H2, kq⟩ := hrel
    have hAq : Hid (Arr kb wr g (P ++ (A ++ (y :: Q)))) := hA.out.keep kq
    by_cases hlt : s < t
    · have hltc : ((a + s : Nat) : Int) < ((a + t : Nat) : Int) := by omega
      obtain ⟨u, hu⟩ : ∃ u, (s + t) / 2 = u := ⟨_, rfl⟩
      obtain ⟨h, hh0⟩ : ∃ h, a + u = h := ⟨_, rfl⟩
      have HH : Hid (a + u = h ∧ s ≤ u ∧ u < t) := ⟨hh0, by omega, by omega⟩
      have hh : ((a : Int) + (s : Int) + ((a : Int) + (t : Int))) / 2 = (h : Int) := by omega
      have hhn : h < n := by omega
      have hhc : (h : Int) < (n : Int) := by omega
      have hmc : (m : Int) < (n : Int) := by omega
      have huA : u < A.length := by have := HP.out; omega
      have zk := hAq.out.box
      have cm := Arr.cell hAq.out (j := m) (by rw [hn.out]; omega)
      have ch := Arr.cell hAq.out (j := h) (by rw [hn.out]; omega)
      rw [EM.out] at cm
      rw [← hh0, EA.out u huA, hh0] at ch
      have hCmp := fun (wx : World) (hz : wx.cell? ⟨kb, 0, none⟩ = some (.func (.func 54) #[] #[])) => Compare_any kb y (A.getD u d0) wx hy64 (HA64.out u huA) hz
      have hcl := cmpI_lt y (A.getD u d0)
      have HU : Hid (u < A.length) := huA
      obtain ⟨z, hz⟩ : ∃ z, A.getD u d0 = z := ⟨_, rfl⟩
      have HZ : Hid (A.getD u d0 = z) := hz
      rw [hz] at ch hCmp hcl
      generalize cmpQ (kI y) (kI z) = r at hCmp hcl
      obtain ⟨cx0, cx1, cx2, cx3, cx4, gcx0, gcx1, gcx2, gcx3, gcx4⟩ := cm
      obtain ⟨cy0, cy1, cy2, cy3, cy4, gcy0, gcy1, gcy2, gcy3, gcy4⟩ := ch
      clear hu hh0 huA hz
      by_cases hk : kI y < kI z
      · rw [decide_eq_true hk] at hcl
        have HK : Hid (kI y < kI z) := hk
        clear hk
        go_wp2_with fail
        refine region_keepQ (Keep.refl wr) (by kernel_rfl) (by kernel_rfl) ?_
        repeat
          with_reducible refine wpQuiet_step ?_
          intro K hK
          go_simp
          first
            | (with_reducible refine hK _ ?_; clear hK K)
            | (with_reducible refine (if_neg ?_).mpr (hK _ ?_)
               · decide
               clear hK K)
            | (apply Exists.intro
               with_reducible refine ⟨fun wq hq => ?_, hK _ ?_⟩
               · first
                   | with_reducible rfl
                   | with_reducible exact (hCmp wq (hq.cell zk)).mono fun e w'' h => ⟨h.1, hq.trans h.2⟩
                   | (have qcx0 := hq.cell cx0; have qcx1 := hq.cell cx1; have qcx2 := hq.cell cx2; have qcx3 := hq.cell cx3; have qcx4 := hq.cell cx4; have qcy0 := hq.cell cy0; have qcy1 := hq.cell cy1; have qcy2 := hq.cell cy2; have qcy3 := hq.cell cy3; have qcy4 := hq.cell cy4; go_simp; with_reducible rfl)
               clear hK K)
        with_reducible refine wpQuiet_nil ?_
        intro wv kv3
        go_simp
        go_wp2_with fail
        refine ⟨⟨s, u, rfl, by have := HH.out; go_num, by have := HH.out; omega, by have := HH.out; omega, H1, ?_, kq.trans kv3⟩, ?_⟩
        · intro x h1 h2
          have h3 := srt_get hs.out d0 (i := u) (j := x) h1 h2
          rw [HZ.out] at h3
          have := HK.out
          omega
        · have := HH.out; simp [intOf]; omega
      · rw [decide_eq_false hk] at hcl
        have HK : Hid (¬ kI y < kI z) := hk
        clear hk
        go_wp2_with fail
        refine region_keepQ (Keep.refl wr) (by kernel_rfl) (by kernel_rfl) ?_
        repeat
          with_reducible refine wpQuiet_step ?_
          intro K hK
          go_simp
          first
            | (with_reducible refine hK _ ?_; clear hK K)
            | (with_reducible refine (if_neg ?_).mpr (hK _ ?_)
               · decide
               clear hK K)
            | (apply Exists.intro
               with_reducible refine ⟨fun wq hq => ?_, hK _ ?_⟩
               · first
                   | with_reducible rfl
                   | with_reducible exact (hCmp wq (hq.cell zk)).mono fun e w'' h => ⟨h.1, hq.trans h.2⟩
                   | (have qcx0 := hq.cell cx0; have qcx1 := hq.cell cx1; have qcx2 := hq.cell cx2; have qcx3 := hq.cell cx3; have qcx4 := hq.cell cx4; have qcy0 := hq.cell cy0; have qcy1 := hq.cell cy1; have qcy2 := hq.cell cy2; have qcy3 := hq.cell cy3; have qcy4 := hq.cell cy4; go_simp; with_reducible rfl)
               clear hK K)
        with_reducible refine wpQuiet_nil ?_
        intro wv kv3
        go_simp
        go_wp2_with fail
        refine ⟨⟨u + 1, t, by have := HH.out; go_num, rfl, by have := HH.out; omega, htb, ?_, H2, kq.trans kv3⟩, ?_⟩
        · intro x hx
          have h1 := srt_get hs.out d0 (i := x) (j := u) (by omega) HU.out
          rw [HZ.out] at h1
          have := HK.out
          omega
        · have := HH.out; simp [intOf]; omega
    · have hltc : ¬ ((a + s : Nat) : Int) < ((a + t : Nat) : Int) := by omega
      obtain rfl : s = t := by omega
      have HS : Hid (s ≤ A.length) := by have := HP.out; show _ ≤ _; omega
      have hA2 : Hid (Arr kb wr g (P ++ (A.take A.length ++ (y :: (A.drop A.length ++ Q))))) := by
        rw [List.take_length, List.drop_length]
        exact hAq.out
      have kA2 : Oth g w wr := (Oth.refl g w).keep kq
      obtain ⟨wv, hwv⟩ : ∃ wv, wv = wr := ⟨_, rfl⟩
      subst hwv
      have hmA : m = a + A.length := HP.out.2.1.symm
      obtain ⟨na, hna⟩ : ∃ na, A.length = na := ⟨_, rfl⟩
      have HNA : Hid (A.length = na ∧ a + na = m) := ⟨hna, by omega⟩
      rw [hna] at hA2 HS
      clear hna hmA
      go_wp2_with fail
      go_loopw [17] (fun kv wr => ∃ v : Nat, kv = .int .i64 ((a + v : Nat) : Int) ∧ s ≤ v ∧ v ≤ na ∧ Hid (Arr kb wr g (P ++ (A.take v ++ (y :: (A.drop v ++ Q))))) ∧ Oth g w wr) (fun kv _ => (intOf kv).toNat)
      case atStart => exact ⟨na, by rw [HNA.out.2], HS.out, by omega, hA2, kA2⟩
      case round =>
        obtain ⟨v, rfl, hv, hvn, hW, kw⟩ := hrel
        by_cases hvs : s < v
        · have hvc : ((a + v : Nat) : Int) > ((a + s : Nat) : Int) := by omega
          obtain ⟨v', hv'⟩ : ∃ v', v = v' + 1 := ⟨v - 1, by omega⟩
          subst hv'
          have hvA : v' < A.length := by have := HNA.out; omega
          obtain ⟨z, hz⟩ : ∃ z, A.getD v' d0 = z := ⟨_, rfl⟩
          have hdr : A.drop v' = z :: A.drop (v' + 1) := by
            rw [List.drop_eq_getElem_cons hvA, ← hz]; simp [List.getD, hvA]
          have htk : A.take (v' + 1) = A.take v' ++ [z] := by
            rw [List.take_add_one, ← hz]; simp [List.getD, hvA]
          have hW2 : Arr kb wr g (P ++ (A.take v' ++ (z :: (y :: (A.drop (v' + 1) ++ Q))))) := by
            have := hW.out
            rw [htk] at this
            simpa only [List.append_assoc, List.cons_append, List.nil_append] using this
          obtain ⟨k, hk⟩ : ∃ k, a + v' = k := ⟨_, rfl⟩
          have hpl : (P ++ A.take v').length = k := by have := HP.out; simp; omega
          have hL2 : (P ++ (A.take v' ++ (z :: (y :: (A.drop (v' + 1) ++ Q))))).length = n := by have := HN.out; simp; omega
          have hkn : k + 1 < n := by have := HN.out; have := HP.out; omega
          have cx := Arr.cell hW2 (j := k) (by omega)
          have cy := Arr.cell hW2 (j := k + 1) (by omega)
          have ex : (P ++ (A.take v' ++ (z :: (y :: (A.drop (v' + 1) ++ Q))))).getD k d0 = z := by
            rw [← List.append_assoc, getD_right d0 _ _ (by omega), show k - (P ++ A.take v').length = 0 by omega]; rfl
          have ey : (P ++ (A.take v' ++ (z :: (y :: (A.drop (v' + 1) ++ Q))))).getD (k + 1) d0 = y := by
            rw [← List.append_assoc, getD_right d0 _ _ (by omega), show k + 1 - (P ++ A.take v').length = 1 by omega]; rfl
          rw [ex] at cx
          rw [ey] at cy
          have hsw : ((P ++ (A.take v' ++ (z :: (y :: (A.drop (v' + 1) ++ Q))))).set (k + 1) z).set k y = P ++ (A.take v' ++ (y :: (A.drop v' ++ Q))) := by
            have h1 := set_two (P ++ A.take v') z y (A.drop (v' + 1) ++ Q)
            rw [hpl] at h1
            rw [List.set_comm _ _ (by omega), hdr]
            simpa only [List.append_assoc, List.cons_append, List.nil_append] using h1
          obtain ⟨q1, q2⟩ := Arr.swap hW2 kw (k + 1) k (x := y) (y := z) (by omega) (by omega)
          rw [hsw] at q1
          replace q1 : Hid _ := q1
          replace q2 : Hid _ := q2
          have c1 : (k : Int) < (n : Int) := by omega
          have c2 : (k : Int) + 1 < (n : Int) := by omega
          obtain ⟨k1, hk1⟩ : ∃ k1, k + 1 = k1 := ⟨_, rfl⟩
          have HV : Hid (s < v' + 1 ∧ a + v' = k ∧ k + 1 = k1 ∧ v' + 1 ≤ na) := ⟨hvs, hk, hk1, hvn⟩
          have hsub : (k1 : Int) - 1 = (k : Int) := by omega
          have hkc : (k1 : Int) > ((a + s : Nat) : Int) := by omega
          have hk1n : (k1 : Int) < (n : Int) := by omega
          have hkk : k1 ≤ 17592186044416 := by omega
          rw [hk1] at cy q1 q2
          obtain ⟨cx0, cx1, cx2, cx3, cx4, gcx0, gcx1, gcx2, gcx3, gcx4⟩ := cx
          obtain ⟨cy0, cy1, cy2, cy3, cy4, gcy0, gcy1, gcy2, gcy3, gcy4⟩ := cy
          rw [show a + (v' + 1) = k1 by omega]
          clear hW hW2 hdr htk hpl hL2 ex ey hsw kw hvs hz hvA hk hv hvc hvn hk1 c2 hkn
          go_wp2_with fail
          go_region
          all_goals
            go_wp2_with fail
            refine ⟨⟨v', by have := HV.out; go_num, by have := HV.out; omega, by have := HV.out; omega, Arr.drew q1.out, Oth.drew q2.out⟩, ?_⟩
            have := HV.out
            simp [intOf]
            omega
        · have hvc : ¬ ((a + v : Nat) : Int) > ((a + s : Nat) : Int) := by omega
          obtain rfl : v = s := by omega
          go_wp2_with fail
          refine bodyPost_ret (results_none rfl _ _ _) rfl ?_
          have hna := HNA.out.1
          obtain ⟨p1, p2⟩ := put_right (key := kI) (x := y) (A1 := A.take v) (A2 := A.drop v) (by rw [List.take_append_drop]; exact hs.out) (by
            intro z hz
            obtain ⟨i, hi, rfl⟩ := List.getElem_of_mem hz
            rw [List.length_take] at hi
            rw [List.getElem_take]
            have := H1.out i (by omega)
            simpa [List.getD, show i < A.length by omega] using this) (by
            intro z hz
            obtain ⟨i, hi, rfl⟩ := List.getElem_of_mem hz
            rw [List.length_drop] at hi
            rw [List.getElem_drop]
            have := H2.out (v + i) (by omega) (by omega)
            simpa [List.getD, show v + i < A.length by omega] using this)
          rw [List.take_append_drop] at p2
          refine ⟨⟨_, rfl⟩, ⟨A.take v ++ y :: A.drop v, by simp; omega, p1, p2, ?_⟩, kw⟩
          have := hW.out
          simpa only [List.append_assoc, List.cons_append] using this
end Go.Proofs.Ytaogjiffnebnkaa.Cu
set_option linter.unusedVariables false
set_option linter.unusedSimpArgs false
namespace Go.Proofs.Ytaogjiffnebnkaa.Cu
open Go.RowKit
/-- What a merge of two stretches answers. -/
def SymP (kb g c n a m b : Nat) (P A B Q : List It) (w : World) : Prop :=
  Calls Try.prog 106 #[.slice (some ⟨g, 0, none⟩) n c, .int .i64 (a : Int), .int .i64 (m : Int), .int .i64 (b : Int), cmpF kb] w fun e w' => (∃ v, e = .returned v) ∧ (∃ M, M.length = A.length + B.length ∧ srt kI M ∧ eqv kI M (A ++ B) ∧ Arr kb w' g (P ++ (M ++ Q))) ∧ Oth g w w'
/-- It answers so for whatever is shorter. -/
def SymI (kb g c n k : Nat) : Prop := ∀ (a m b : Nat) (P A B Q : List It) (w : World), A.length + B.length < k → 1 ≤ A.length → 1 ≤ B.length → F64 (P ++ (A ++ (B ++ Q))) → (P ++ (A ++ (B ++ Q))).length = n → P.length = a → a + A.length = m → m + B.length = b → srt kI A → srt kI B → Arr kb w g (P ++ (A ++ (B ++ Q))) → SymP kb g c n a m b P A B Q w
theorem F64.to {X Y : List It} (h : F64 X) (hs : ∀ x ∈ Y, x ∈ X) : F64 Y := fun x hx => h x (hs x hx)
theorem srt_app {A B : List It} (h : A = [] ∨ B = []) (hA : srt kI A) (hB : srt kI B) : srt kI (A ++ B) := by
  rcases h with rfl | rfl
  · simpa using hB
  · simpa using hA
/-- The rotation of the middle. -/
theorem sym_rot (kb g c n st m en : Nat) (P A1 A2 B1 B2 Q : List It) (w : World) (hn : (P ++ ((A1 ++ A2) ++ ((B1 ++ B2) ++ Q))).length = n) (hl : n ≤ 17592186044416) (hst : P.length + A1.length = st) (hm : st + A2.length = m) (hen : m + B1.length = en) (h1 : 1 ≤ A2.length) (h2 : 1 ≤ B1.length) (hA : Arr kb w g (P ++ ((A1 ++ A2) ++ ((B1 ++ B2) ++ Q)))) :
    Calls Try.prog 117 #[.slice (some ⟨g, 0, none⟩) n c, .int .i64 (st : Int), .int .i64 (m : Int), .int .i64 (en : Int), cmpF kb] w fun e w' => (∃ v, e = .returned v) ∧ Arr kb w' g (P ++ (A1 ++ (B1 ++ (A2 ++ (B2 ++ Q))))) ∧ Oth g w w' := by
  have e : P ++ ((A1 ++ A2) ++ ((B1 ++ B2) ++ Q)) = (P ++ A1) ++ (A2 ++ (B1 ++ (B2 ++ Q))) := by simp only [List.append_assoc]
  rw [e] at hn hA
  have h := rotate_any kb g c n st m en (P ++ A1) A2 B1 (B2 ++ Q) w hn hl (by simp; omega) hm hen h1 h2 hA
  have e2 : P ++ (A1 ++ (B1 ++ (A2 ++ (B2 ++ Q)))) = (P ++ A1) ++ (B1 ++ (A2 ++ (B2 ++ Q))) := by simp only [List.append_assoc]
  rw [e2]
  exact h
theorem sym_norot {kb g : Nat} {P A1 A2 B1 B2 Q : List It} {w : World} (h : A2 = [] ∨ B1 = []) (hA : Arr kb w g (P ++ ((A1 ++ A2) ++ ((B1 ++ B2) ++ Q)))) : Arr kb w g (P ++ (A1 ++ (B1 ++ (A2 ++ (B2 ++ Q))))) := by
  rcases h with rfl | rfl
  · simpa only [List.append_assoc, List.nil_append, List.append_nil] using hA
  · simpa only [List.append_assoc, List.nil_append, List.append_nil] using hA
/-- The first half merged. -/
theorem sym_one (kb g c n k a st md : Nat) (P A1 A2 B1 B2 Q : List It) (w : World) (IH : SymI kb g c n k) (hk : A1.length + B1.length < k) (hF : F64 (P ++ ((A1 ++ A2) ++ ((B1 ++ B2) ++ Q)))) (hn : (P ++ ((A1 ++ A2) ++ ((B1 ++ B2) ++ Q))).length = n) (ha : P.length = a) (hst : a + A1.length = st) (hmd : st + B1.length = md) (h1 : 1 ≤ A1.length) (h2 : 1 ≤ B1.length) (s1 : srt kI (A1 ++ A2)) (s2 : srt kI (B1 ++ B2)) (hA : Arr kb w g (P ++ (A1 ++ (B1 ++ (A2 ++ (B2 ++ Q)))))) :
    SymP kb g c n a st md P A1 B1 (A2 ++ (B2 ++ Q)) w :=
  IH a st md P A1 B1 (A2 ++ (B2 ++ Q)) w hk h1 h2 (hF.to fun x hx => by simp only [List.mem_append] at hx; rcases hx with h | h | h | h | h | h <;> simp [h]) (by rw [← hn]; simp; omega) ha hst hmd (List.pairwise_append.1 s1).1 (List.pairwise_append.1 s2).1 hA
/-- The second half merged. -/
theorem sym_two (kb g c n k a md en b : Nat) (P A1 A2 B1 B2 Q M1 : List It) (w : World) (IH : SymI kb g c n k) (hk : A2.length + B2.length < k) (hF : F64 (P ++ ((A1 ++ A2) ++ ((B1 ++ B2) ++ Q)))) (hn : (P ++ ((A1 ++ A2) ++ ((B1 ++ B2) ++ Q))).length = n) (hM : M1.length = A1.length + B1.length) (he : eqv kI M1 (A1 ++ B1)) (ha : P.length + A1.length + B1.length = md) (hst : md + A2.length = en) (hmd : en + B2.length = b) (h1 : 1 ≤ A2.length) (h2 : 1 ≤ B2.length) (s1 : srt kI (A1 ++ A2)) (s2 : srt kI (B1 ++ B2)) (hA : Arr kb w g (P ++ (M1 ++ (A2 ++ (B2 ++ Q))))) :
    SymP kb g c n md en b (P ++ M1) A2 B2 Q w := by
  have e : P ++ (M1 ++ (A2 ++ (B2 ++ Q))) = (P ++ M1) ++ (A2 ++ (B2 ++ Q)) := by simp only [List.append_assoc]
  rw [e] at hA
  refine IH md en b (P ++ M1) A2 B2 Q w hk h1 h2 (hF.to fun x hx => ?_) (by rw [← hn]; simp; omega) (by simp; omega) hst hmd (List.pairwise_append.1 s1).2.1 (List.pairwise_append.1 s2).2.1 hA
  simp only [List.mem_append] at hx
  rcases hx with (h | h) | h | h | h
  · simp [h]
  · have := he.mem h
    rcases List.mem_append.1 this with h | h <;> simp [h]
  · simp [h]
  · simp [h]
  · simp [h]
/-- Both halves merged. -/
theorem sym_end {kb g : Nat} {P A1 A2 B1 B2 Q M1 M2 : List It} {w : World} (s1 : srt kI (A1 ++ A2)) (s2 : srt kI (B1 ++ B2)) (h1 : ∀ x ∈ A1, ∀ y ∈ B2, kI x ≤ kI y) (h2 : ∀ x ∈ A2, ∀ y ∈ B1, kI y < kI x) (l1 : M1.length = A1.length + B1.length) (q1 : srt kI M1) (e1 : eqv kI M1 (A1 ++ B1)) (l2 : M2.length = A2.length + B2.length) (q2 : srt kI M2) (e2 : eqv kI M2 (A2 ++ B2)) (hA : Arr kb w g ((P ++ M1) ++ (M2 ++ Q))) :
    ∃ M, M.length = (A1 ++ A2).length + (B1 ++ B2).length ∧ srt kI M ∧ eqv kI M ((A1 ++ A2) ++ (B1 ++ B2)) ∧ Arr kb w g (P ++ (M ++ Q)) := by
  obtain ⟨p1, p2⟩ := merged s1 s2 h1 h2 e1 q1 e2 q2
  exact ⟨M1 ++ M2, by simp; omega, p1, p2, by simpa only [List.append_assoc] using hA⟩
end Go.Proofs.Ytaogjiffnebnkaa.Cu
