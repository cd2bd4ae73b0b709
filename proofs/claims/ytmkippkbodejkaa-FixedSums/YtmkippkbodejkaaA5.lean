import Derived.Test.YtmkippkbodejkaaA4
namespace Go.Proofs.Ytmkippkbodejkaa
open Go.RowKit
/-- Two words in a block of their own. -/
def Two (w : World) (g x y : Nat) : Prop := w.heap[g]? = some (.cells #[.int .u64 (x : Nat), .int .u64 (y : Nat)] 35 (0, 0))
theorem Two.keep {w w' : World} {g x y : Nat} (h : Two w g x y) (k : Keep w w') : Two w' g x y := by
  unfold Two; rw [k.block g (Array.getElem?_eq_some_iff.1 h).1]; exact h
theorem Two.cells {w : World} {g x y : Nat} (h : Two w g x y) : w.cell? ⟨g, 0, none⟩ = some (.int .u64 (x : Nat)) ∧ w.cell? ⟨g, 1, none⟩ = some (.int .u64 (y : Nat)) := by
  refine ⟨?_, ?_⟩ <;> rw [cell_of_row w g _ _ 35 (0, 0) h] <;> rfl
theorem Two.free {w : World} {g x y : Nat} (h : Two w g x y) (j : Nat) : w.frozen? ⟨g, j, none⟩ = false := frozen_of_row w g j _ 35 h
theorem Two.new (w : World) (x y : Nat) : Two (w.alloc (.cells #[.int .u64 (x : Nat), .int .u64 (y : Nat)] 35)) w.heap.size x y := heap_alloc_new w _
theorem Two.set0 {w : World} {g x y : Nat} (h : Two w g x y) (z : Nat) : Two (w.setCell ⟨g, 0, none⟩ (.int .u64 (z : Nat))) g z y := by
  have h0 := heap_setCell_same w g 0 _ 35 (.int .u64 (z : Nat)) h
  unfold Two; rw [h0]; simp
theorem Two.set1 {w : World} {g x y : Nat} (h : Two w g x y) (z : Nat) : Two (w.setCell ⟨g, 1, none⟩ (.int .u64 (z : Nat))) g x z := by
  have h0 := heap_setCell_same w g 1 _ 35 (.int .u64 (z : Nat)) h
  unfold Two; rw [h0]; simp
theorem Two.other {w : World} {g g' x y : Nat} (h : Two w g x y) (hn : g ≠ g') (j : Nat) (v : Value) : Two (w.setCell ⟨g', j, none⟩ v) g x y := by
  unfold Two; rw [Below.heap_setCell _ _ _ _ (by simpa using hn)]; exact h
structure Acc (l : List Int) (k a0 a1 b0 b1 : Nat) : Prop where
  la0 : a0 < 18446744073709551616
  la1 : a1 < 18446744073709551616
  sum : ((b0 : Int) * 18446744073709551616 + a0) - ((b1 : Int) * 18446744073709551616 + a1) = (l.take k).sum
  pb : (b0 : Int) * 18446744073709551616 + a0 ≤ 9223372036854775808 * (k : Int)
  nb : (b1 : Int) * 18446744073709551616 + a1 ≤ 9223372036854775808 * (k : Int)
theorem fin_true (T : Int) (D L : Nat) (h : T = -((D : Int) * 18446744073709551616 + L)) : (D ≠ 0 ∨ sgB true L = false → sumV T = 0 ∧ sumE T = 41) ∧ (D = 0 → sgB true L = true → sumV T = sgV true L ∧ sumE T = 0) := by
  unfold sgB sgV sumV sumE
  simp only [true_and]
  constructor
  · intro h1
    have h2 : ¬ (-9223372036854775808 ≤ T ∧ T ≤ 9223372036854775807) := by
      rcases h1 with h1 | h1
      · omega
      · split at h1
        · simp at h1
        · omega
    rw [if_neg h2, if_neg h2]; exact ⟨rfl, rfl⟩
  · intro h0 h1
    have h2 : L ≤ 9223372036854775808 := by
      split at h1
      · assumption
      · simp at h1; omega
    have h3 : -9223372036854775808 ≤ T ∧ T ≤ 9223372036854775807 := by omega
    rw [if_pos h3, if_pos h3, if_pos h2]; exact ⟨by omega, rfl⟩
theorem fin_false (T : Int) (D L : Nat) (h : T = ((D : Int) * 18446744073709551616 + L)) : (D ≠ 0 ∨ sgB false L = false → sumV T = 0 ∧ sumE T = 41) ∧ (D = 0 → sgB false L = true → sumV T = sgV false L ∧ sumE T = 0) := by
  unfold sgB sgV sumV sumE
  simp only [Bool.false_eq_true, false_and, if_false]
  constructor
  · intro h1
    have h2 : ¬ (-9223372036854775808 ≤ T ∧ T ≤ 9223372036854775807) := by
      rcases h1 with h1 | h1
      · omega
      · simp at h1; omega
    rw [if_neg h2, if_neg h2]; exact ⟨rfl, rfl⟩
  · intro h0 h1
    have h2 : L < 9223372036854775808 := by simpa using h1
    have h3 : -9223372036854775808 ≤ T ∧ T ≤ 9223372036854775807 := by omega
    rw [if_pos h3, if_pos h3, if_pos h2]; exact ⟨by omega, rfl⟩
set_option maxRecDepth 100000 in
set_option maxHeartbeats 3200000 in
theorem rSum_any (a : Option Addr) (ca : Nat) (l : List Int) (w : World) (hl : l.length ≤ 70368744177664) (hr : Rd w a l) (hm : I64 l) :
    Calls Try.prog 6 #[.slice a l.length ca] w fun e w' => e = .returned (.tuple #[.int .i64 (sumV l.sum), .int .i64 (sumE l.sum)]) ∧ Keep w w' := by
  have hA0 := Two.new w 0 0
  have hk0 : Keep w (w.alloc (.cells #[.int .u64 ((0 : Nat) : Int), .int .u64 ((0 : Nat) : Int)] 35)) := (Keep.refl w).alloc _
  have hz0 : (w.alloc (.cells #[.int .u64 ((0 : Nat) : Int), .int .u64 ((0 : Nat) : Int)] 35)).heap.size = w.heap.size + 1 := by simp
  simp only [Int.ofNat_zero] at hA0 hk0 hz0
  go_enter Try.func6, Try.ntmps6
  go_wp2_with fail
  generalize w.alloc _ = w1 at hA0 hk0 hz0 ⊢
  have hB0 := Two.new w1 0 0
  have hk1 : Keep w1 (w1.alloc (.cells #[.int .u64 ((0 : Nat) : Int), .int .u64 ((0 : Nat) : Int)] 35)) := (Keep.refl w1).alloc _
  simp only [Int.ofNat_zero] at hB0 hk1
  rw [hz0] at hB0
  generalize w1.alloc _ = w2 at hB0 hk1 ⊢
  have hA0 := hA0.keep hk1
  have hk02 := hk0.trans hk1
  obtain ⟨g, hg⟩ : ∃ g, w.heap.size = g := ⟨_, rfl⟩
  rw [hg] at hA0 hB0 ⊢
  go_loopw [6] (fun iv wr => ∃ (k a0 a1 b0 b1 : Nat), k ≤ l.length ∧ iv = .int .i64 k ∧ Acc l k a0 a1 b0 b1 ∧ Two wr g a0 a1 ∧ Two wr (g + 1) b0 b1 ∧ Keep w wr) (fun iv _ => l.length - (intOf iv).toNat)
  case atStart => exact ⟨0, 0, 0, 0, 0, by omega, rfl, ⟨by omega, by omega, by simp, by omega, by omega⟩, hA0, hB0, hk02⟩
  case round =>
    clear hA0 hB0 hk0 hk1 hk02 hz0
    obtain ⟨k, a0, a1, b0, b1, hk, rfl, hacc, hA, hB, hkp⟩ := hrel
    obtain ⟨x0, x1⟩ := hA.cells
    obtain ⟨y0, y1⟩ := hB.cells
    have fa0 := hA.free 0
    have fa1 := hA.free 1
    have fb0 := hB.free 0
    have fb1 := hB.free 1
    obtain ⟨la0, la1, hsum, hpb, hnb⟩ := hacc
    have lb0 : b0 < 9223372036854775808 := by omega
    have lb1 : b1 < 9223372036854775808 := by omega
    have hgw : Hid (w.heap.size ≤ g) := by show _ ≤ _; omega
    by_cases hkl : k < l.length
    · obtain ⟨bb, oo, rfl, hc⟩ := (hr.keep hkp) k hkl
      obtain ⟨v, hv⟩ : ∃ v, l.getD k 0 = v := ⟨_, rfl⟩
      obtain ⟨hv1, hv2⟩ := I64_getD hm k
      have hst := sum_take l k
      rw [hv] at hc hv1 hv2 hst
      have hAm := fun wx => amount_any v wx hv1 hv2
      obtain ⟨m, hmm⟩ : ∃ m, v.natAbs = m := ⟨_, rfl⟩
      rw [hmm] at hAm
      have hml : m ≤ 9223372036854775808 := by omega
      clear hv
      by_cases hneg : v < 0
      · have hd : decide (v < 0) = true := by simp; omega
        obtain ⟨s, hs⟩ : ∃ s, (a1 + m) % 18446744073709551616 = s := ⟨_, rfl⟩
        have q : IntKind.u64.wrap ((a1 : Int) + (m : Int)) = (s : Int) := by rw [IntKind.wrap_u64]; omega
        by_cases hcy : s < m
        · have hd2 : decide ((s : Int) < (m : Int)) = true := by simp; omega
          have HA : Acc l (k + 1) a0 s b0 (b1 + 1) := by refine ⟨by omega, by omega, by rw [hst]; omega, by omega, by omega⟩
          have HAH : Hid (Acc l (k + 1) a0 s b0 (b1 + 1)) := HA
          clear HA hst hsum hpb hnb hmm hs
          go_wp2_with fail
          refine (hAm _).mono ?_
          rintro e w9 ⟨rfl, rfl⟩
          go_wp2_with fail
          go_roundw
          case rel => exact ⟨k + 1, _, _, _, _, by omega, by go_num, HAH.out, ((hA.set1 s).other (by omega) 1 _), ((hB.other (by omega) 1 _).set1 (b1 + 1)), (hkp.setCell (by have := hgw.out; show _ ≤ g; omega) _).setCell (by have := hgw.out; show _ ≤ g + 1; omega) _⟩
          case measure => simp [intOf]; omega
        · have hd2 : decide ((s : Int) < (m : Int)) = false := by simp; omega
          have HA : Acc l (k + 1) a0 s b0 b1 := by refine ⟨by omega, by omega, by rw [hst]; omega, by omega, by omega⟩
          have HAH : Hid (Acc l (k + 1) a0 s b0 b1) := HA
          clear HA hst hsum hpb hnb hmm hs
          go_wp2_with fail
          refine (hAm _).mono ?_
          rintro e w9 ⟨rfl, rfl⟩
          go_wp2_with fail
          go_roundw
          case rel => exact ⟨k + 1, _, _, _, _, by omega, by go_num, HAH.out, hA.set1 s, hB.other (by omega) 1 _, hkp.setCell (by have := hgw.out; show _ ≤ g; omega) _⟩
          case measure => simp [intOf]; omega
      · have hd : decide (v < 0) = false := by simp; omega
        obtain ⟨s, hs⟩ : ∃ s, (a0 + m) % 18446744073709551616 = s := ⟨_, rfl⟩
        have q : IntKind.u64.wrap ((a0 : Int) + (m : Int)) = (s : Int) := by rw [IntKind.wrap_u64]; omega
        by_cases hcy : s < m
        · have hd2 : decide ((s : Int) < (m : Int)) = true := by simp; omega
          have HA : Acc l (k + 1) s a1 (b0 + 1) b1 := by refine ⟨by omega, by omega, by rw [hst]; omega, by omega, by omega⟩
          have HAH : Hid (Acc l (k + 1) s a1 (b0 + 1) b1) := HA
          clear HA hst hsum hpb hnb hmm hs
          go_wp2_with fail
          refine (hAm _).mono ?_
          rintro e w9 ⟨rfl, rfl⟩
          go_wp2_with fail
          go_roundw
          case rel => exact ⟨k + 1, _, _, _, _, by omega, by go_num, HAH.out, ((hA.set0 s).other (by omega) 0 _), ((hB.other (by omega) 0 _).set0 (b0 + 1)), (hkp.setCell (by have := hgw.out; show _ ≤ g; omega) _).setCell (by have := hgw.out; show _ ≤ g + 1; omega) _⟩
          case measure => simp [intOf]; omega
        · have hd2 : decide ((s : Int) < (m : Int)) = false := by simp; omega
          have HA : Acc l (k + 1) s a1 b0 b1 := by refine ⟨by omega, by omega, by rw [hst]; omega, by omega, by omega⟩
          have HAH : Hid (Acc l (k + 1) s a1 b0 b1) := HA
          clear HA hst hsum hpb hnb hmm hs
          go_wp2_with fail
          refine (hAm _).mono ?_
          rintro e w9 ⟨rfl, rfl⟩
          go_wp2_with fail
          go_roundw
          case rel => exact ⟨k + 1, _, _, _, _, by omega, by go_num, HAH.out, hA.set0 s, hB.other (by omega) 0 _, hkp.setCell (by have := hgw.out; show _ ≤ g; omega) _⟩
          case measure => simp [intOf]; omega
    · have hke : k = l.length := by omega
      subst hke
      rw [List.take_of_length_le (Nat.le_refl _)] at hsum
      obtain ⟨T, hT⟩ : ∃ T, l.sum = T := ⟨_, rfl⟩
      rw [hT] at hsum
      have HT : Hid (l.sum = T) := hT
      clear hT hr hm hkl
      rcases Nat.lt_trichotomy b0 b1 with hb | hb | hb
      · by_cases ha : a1 < a0
        · have hg1 : decide ((b0 : Int) < (b1 : Int)) = true := by simp; omega
          obtain ⟨E, hE⟩ : ∃ E, b1 - b0 = E := ⟨_, rfl⟩
          have q1 : IntKind.u64.wrap ((b1 : Int) - (b0 : Int)) = (E : Int) := by rw [IntKind.wrap_u64]; omega
          have hE0 : 0 < E := by omega
          have hg4 : decide ((a1 : Int) < (a0 : Int)) = true := by simp; omega
          obtain ⟨L, hL⟩ : ∃ L : Nat, (L : Int) = ((a1 : Int) - (a0 : Int)) % 18446744073709551616 := ⟨(((a1 : Int) - (a0 : Int)) % 18446744073709551616).toNat, by omega⟩
          have hLl : L < 18446744073709551616 := by omega
          have q3 : IntKind.u64.wrap ((a1 : Int) - (a0 : Int)) = (L : Int) := by rw [IntKind.wrap_u64]; omega
          obtain ⟨D, hD⟩ : ∃ D, E = D + 1 := ⟨E - 1, by omega⟩
          have q2 : IntKind.u64.wrap ((E : Int) - 1) = (D : Int) := by rw [IntKind.wrap_u64]; omega
          have hT2 : T = -((D : Int) * 18446744073709551616 + L) := by omega
          have hS := fun wx => signed_any true L wx hLl
          have Hfin : Hid ((D ≠ 0 ∨ sgB true L = false → sumV T = 0 ∧ sumE T = 41) ∧ (D = 0 → sgB true L = true → sumV T = sgV true L ∧ sumE T = 0)) := fin_true T D L hT2
          generalize sgV true L = sv at hS Hfin
          generalize sgB true L = sb at hS Hfin
          clear hT2 hL hsum hpb hnb la0 la1 lb0 lb1 hE
          clear hD
          by_cases hD0 : D = 0
          · rcases hsb : sb with _ | _
            · have hdz : ((D : Int) == 0) = true := by simp; omega
              subst hsb
              have h1 := Hfin.out.1 (.inr rfl)
              have H1 : Hid (_ ∧ _) := h1
              clear h1 Hfin
              obtain rfl : D = 0 := by omega
              clear hdz
              go_wp2_with fail
              refine (hS _).mono ?_
              rintro e w9 ⟨rfl, rfl⟩
              go_wp2_with fail
              go_ret2
              exact ⟨by rw [HT.out, H1.out.1, H1.out.2]; rfl, (((hkp.setCell (by have := hgw.out; show _ ≤ g; omega) _).setCell (by have := hgw.out; show _ ≤ g; omega) _).setCell (by have := hgw.out; show _ ≤ g + 1; omega) _).setCell (by have := hgw.out; show _ ≤ g + 1; omega) _⟩
            · have hdz : ((D : Int) == 0) = true := by simp; omega
              subst hsb
              have h1 := Hfin.out.2 (by omega) rfl
              have H1 : Hid (_ ∧ _) := h1
              clear h1 Hfin
              obtain rfl : D = 0 := by omega
              clear hdz
              go_wp2_with fail
              refine (hS _).mono ?_
              rintro e w9 ⟨rfl, rfl⟩
              go_wp2_with fail
              go_ret2
              exact ⟨by rw [HT.out, H1.out.1, H1.out.2]; rfl, (((hkp.setCell (by have := hgw.out; show _ ≤ g; omega) _).setCell (by have := hgw.out; show _ ≤ g; omega) _).setCell (by have := hgw.out; show _ ≤ g + 1; omega) _).setCell (by have := hgw.out; show _ ≤ g + 1; omega) _⟩
          · have hdz : ((D : Int) == 0) = false := by simp; omega
            have h1 := Hfin.out.1 (.inl (by omega))
            have H1 : Hid (_ ∧ _) := h1
            clear h1 Hfin
            go_wp2_with fail
            refine (hS _).mono ?_
            rintro e w9 ⟨rfl, rfl⟩
            go_wp2_with fail
            go_ret2
            exact ⟨by rw [HT.out, H1.out.1, H1.out.2]; rfl, (((hkp.setCell (by have := hgw.out; show _ ≤ g; omega) _).setCell (by have := hgw.out; show _ ≤ g; omega) _).setCell (by have := hgw.out; show _ ≤ g + 1; omega) _).setCell (by have := hgw.out; show _ ≤ g + 1; omega) _⟩
        · have hg1 : decide ((b0 : Int) < (b1 : Int)) = true := by simp; omega
          obtain ⟨E, hE⟩ : ∃ E, b1 - b0 = E := ⟨_, rfl⟩
          have q1 : IntKind.u64.wrap ((b1 : Int) - (b0 : Int)) = (E : Int) := by rw [IntKind.wrap_u64]; omega
          have hE0 : 0 < E := by omega
          have hg4 : decide ((a1 : Int) < (a0 : Int)) = false := by simp; omega
          obtain ⟨L, hL⟩ : ∃ L : Nat, (L : Int) = ((a1 : Int) - (a0 : Int)) % 18446744073709551616 := ⟨(((a1 : Int) - (a0 : Int)) % 18446744073709551616).toNat, by omega⟩
          have hLl : L < 18446744073709551616 := by omega
          have q3 : IntKind.u64.wrap ((a1 : Int) - (a0 : Int)) = (L : Int) := by rw [IntKind.wrap_u64]; omega
          obtain ⟨D, hD⟩ : ∃ D, E = D := ⟨E, rfl⟩
          have hT2 : T = -((D : Int) * 18446744073709551616 + L) := by omega
          have hS := fun wx => signed_any true L wx hLl
          have Hfin : Hid ((D ≠ 0 ∨ sgB true L = false → sumV T = 0 ∧ sumE T = 41) ∧ (D = 0 → sgB true L = true → sumV T = sgV true L ∧ sumE T = 0)) := fin_true T D L hT2
          generalize sgV true L = sv at hS Hfin
          generalize sgB true L = sb at hS Hfin
          clear hT2 hL hsum hpb hnb la0 la1 lb0 lb1 hE
          subst hD
          have hdz : ((E : Int) == 0) = false := by simp; omega
          have h1 := Hfin.out.1 (.inl (by omega))
          have H1 : Hid (_ ∧ _) := h1
          clear h1 Hfin
          go_wp2_with fail
          refine (hS _).mono ?_
          rintro e w9 ⟨rfl, rfl⟩
          go_wp2_with fail
          go_ret2
          exact ⟨by rw [HT.out, H1.out.1, H1.out.2]; rfl, (((hkp.setCell (by have := hgw.out; show _ ≤ g; omega) _).setCell (by have := hgw.out; show _ ≤ g; omega) _).setCell (by have := hgw.out; show _ ≤ g + 1; omega) _).setCell (by have := hgw.out; show _ ≤ g + 1; omega) _⟩
      · by_cases ha : a0 < a1
        · have hg1 : decide ((b0 : Int) < (b1 : Int)) = false := by simp; omega
          obtain ⟨E, hE⟩ : ∃ E, b1 - b0 = E := ⟨_, rfl⟩
          have hE0 : E = 0 := by omega
          have q1 : IntKind.u64.wrap ((b1 : Int) - (b0 : Int)) = (E : Int) := by rw [IntKind.wrap_u64]; omega
          have hg3 : decide ((a0 : Int) < (a1 : Int)) = true := by simp; omega
          have hg4 : decide ((a1 : Int) < (a0 : Int)) = false := by simp; omega
          obtain ⟨L, hL⟩ : ∃ L : Nat, (L : Int) = ((a1 : Int) - (a0 : Int)) % 18446744073709551616 := ⟨(((a1 : Int) - (a0 : Int)) % 18446744073709551616).toNat, by omega⟩
          have hLl : L < 18446744073709551616 := by omega
          have q3 : IntKind.u64.wrap ((a1 : Int) - (a0 : Int)) = (L : Int) := by rw [IntKind.wrap_u64]; omega
          obtain ⟨D, hD⟩ : ∃ D, E = D := ⟨E, rfl⟩
          have hT2 : T = -((D : Int) * 18446744073709551616 + L) := by omega
          have hS := fun wx => signed_any true L wx hLl
          have Hfin : Hid ((D ≠ 0 ∨ sgB true L = false → sumV T = 0 ∧ sumE T = 41) ∧ (D = 0 → sgB true L = true → sumV T = sgV true L ∧ sumE T = 0)) := fin_true T D L hT2
          generalize sgV true L = sv at hS Hfin
          generalize sgB true L = sb at hS Hfin
          clear hT2 hL hsum hpb hnb la0 la1 lb0 lb1 hE
          subst hD
          subst hE0
          obtain rfl : b1 = b0 := by omega
          rcases hsb : sb with _ | _
          · subst hsb
            have h1 := Hfin.out.1 (.inr rfl)
            have H1 : Hid (_ ∧ _) := h1
            clear h1 Hfin
            go_wp2_with fail
            refine (hS _).mono ?_
            rintro e w9 ⟨rfl, rfl⟩
            go_wp2_with fail
            go_ret2
            exact ⟨by rw [HT.out, H1.out.1, H1.out.2]; rfl, (((hkp.setCell (by have := hgw.out; show _ ≤ g; omega) _).setCell (by have := hgw.out; show _ ≤ g; omega) _).setCell (by have := hgw.out; show _ ≤ g + 1; omega) _).setCell (by have := hgw.out; show _ ≤ g + 1; omega) _⟩
          · subst hsb
            have h1 := Hfin.out.2 (by omega) rfl
            have H1 : Hid (_ ∧ _) := h1
            clear h1 Hfin
            go_wp2_with fail
            refine (hS _).mono ?_
            rintro e w9 ⟨rfl, rfl⟩
            go_wp2_with fail
            go_ret2
            exact ⟨by rw [HT.out, H1.out.1, H1.out.2]; rfl, (((hkp.setCell (by have := hgw.out; show _ ≤ g; omega) _).setCell (by have := hgw.out; show _ ≤ g; omega) _).setCell (by have := hgw.out; show _ ≤ g + 1; omega) _).setCell (by have := hgw.out; show _ ≤ g + 1; omega) _⟩
        · have hg1 : decide ((b0 : Int) < (b1 : Int)) = false := by simp; omega
          obtain ⟨E, hE⟩ : ∃ E, b0 - b1 = E := ⟨_, rfl⟩
          have hE0 : E = 0 := by omega
          have q1 : IntKind.u64.wrap ((b0 : Int) - (b1 : Int)) = (E : Int) := by rw [IntKind.wrap_u64]; omega
          have hg3 : decide ((a0 : Int) < (a1 : Int)) = false := by simp; omega
          have hg4 : decide ((a0 : Int) < (a1 : Int)) = false := by simp; omega
          obtain ⟨L, hL⟩ : ∃ L : Nat, (L : Int) = ((a0 : Int) - (a1 : Int)) % 18446744073709551616 := ⟨(((a0 : Int) - (a1 : Int)) % 18446744073709551616).toNat, by omega⟩
          have hLl : L < 18446744073709551616 := by omega
          have q3 : IntKind.u64.wrap ((a0 : Int) - (a1 : Int)) = (L : Int) := by rw [IntKind.wrap_u64]; omega
          obtain ⟨D, hD⟩ : ∃ D, E = D := ⟨E, rfl⟩
          have hT2 : T = ((D : Int) * 18446744073709551616 + L) := by omega
          have hS := fun wx => signed_any false L wx hLl
          have Hfin : Hid ((D ≠ 0 ∨ sgB false L = false → sumV T = 0 ∧ sumE T = 41) ∧ (D = 0 → sgB false L = true → sumV T = sgV false L ∧ sumE T = 0)) := fin_false T D L hT2
          generalize sgV false L = sv at hS Hfin
          generalize sgB false L = sb at hS Hfin
          clear hT2 hL hsum hpb hnb la0 la1 lb0 lb1 hE
          subst hD
          subst hE0
          obtain rfl : b1 = b0 := by omega
          rcases hsb : sb with _ | _
          · subst hsb
            have h1 := Hfin.out.1 (.inr rfl)
            have H1 : Hid (_ ∧ _) := h1
            clear h1 Hfin
            go_wp2_with fail
            refine (hS _).mono ?_
            rintro e w9 ⟨rfl, rfl⟩
            go_wp2_with fail
            go_ret2
            exact ⟨by rw [HT.out, H1.out.1, H1.out.2]; rfl, hkp⟩
          · subst hsb
            have h1 := Hfin.out.2 (by omega) rfl
            have H1 : Hid (_ ∧ _) := h1
            clear h1 Hfin
            go_wp2_with fail
            refine (hS _).mono ?_
            rintro e w9 ⟨rfl, rfl⟩
            go_wp2_with fail
            go_ret2
            exact ⟨by rw [HT.out, H1.out.1, H1.out.2]; rfl, hkp⟩
      · by_cases ha : a0 < a1
        · have hg1 : decide ((b0 : Int) < (b1 : Int)) = false := by simp; omega
          have hg2 : ((b1 : Int) == (b0 : Int)) = false := by simp; omega
          obtain ⟨E, hE⟩ : ∃ E, b0 - b1 = E := ⟨_, rfl⟩
          have q1 : IntKind.u64.wrap ((b0 : Int) - (b1 : Int)) = (E : Int) := by rw [IntKind.wrap_u64]; omega
          have hE0 : 0 < E := by omega
          have hg4 : decide ((a0 : Int) < (a1 : Int)) = true := by simp; omega
          obtain ⟨L, hL⟩ : ∃ L : Nat, (L : Int) = ((a0 : Int) - (a1 : Int)) % 18446744073709551616 := ⟨(((a0 : Int) - (a1 : Int)) % 18446744073709551616).toNat, by omega⟩
          have hLl : L < 18446744073709551616 := by omega
          have q3 : IntKind.u64.wrap ((a0 : Int) - (a1 : Int)) = (L : Int) := by rw [IntKind.wrap_u64]; omega
          obtain ⟨D, hD⟩ : ∃ D, E = D + 1 := ⟨E - 1, by omega⟩
          have q2 : IntKind.u64.wrap ((E : Int) - 1) = (D : Int) := by rw [IntKind.wrap_u64]; omega
          have hT2 : T = ((D : Int) * 18446744073709551616 + L) := by omega
          have hS := fun wx => signed_any false L wx hLl
          have Hfin : Hid ((D ≠ 0 ∨ sgB false L = false → sumV T = 0 ∧ sumE T = 41) ∧ (D = 0 → sgB false L = true → sumV T = sgV false L ∧ sumE T = 0)) := fin_false T D L hT2
          generalize sgV false L = sv at hS Hfin
          generalize sgB false L = sb at hS Hfin
          clear hT2 hL hsum hpb hnb la0 la1 lb0 lb1 hE
          clear hD
          by_cases hD0 : D = 0
          · rcases hsb : sb with _ | _
            · have hdz : ((D : Int) == 0) = true := by simp; omega
              subst hsb
              have h1 := Hfin.out.1 (.inr rfl)
              have H1 : Hid (_ ∧ _) := h1
              clear h1 Hfin
              obtain rfl : D = 0 := by omega
              clear hdz
              go_wp2_with fail
              refine (hS _).mono ?_
              rintro e w9 ⟨rfl, rfl⟩
              go_wp2_with fail
              go_ret2
              exact ⟨by rw [HT.out, H1.out.1, H1.out.2]; rfl, hkp⟩
            · have hdz : ((D : Int) == 0) = true := by simp; omega
              subst hsb
              have h1 := Hfin.out.2 (by omega) rfl
              have H1 : Hid (_ ∧ _) := h1
              clear h1 Hfin
              obtain rfl : D = 0 := by omega
              clear hdz
              go_wp2_with fail
              refine (hS _).mono ?_
              rintro e w9 ⟨rfl, rfl⟩
              go_wp2_with fail
              go_ret2
              exact ⟨by rw [HT.out, H1.out.1, H1.out.2]; rfl, hkp⟩
          · have hdz : ((D : Int) == 0) = false := by simp; omega
            have h1 := Hfin.out.1 (.inl (by omega))
            have H1 : Hid (_ ∧ _) := h1
            clear h1 Hfin
            go_wp2_with fail
            refine (hS _).mono ?_
            rintro e w9 ⟨rfl, rfl⟩
            go_wp2_with fail
            go_ret2
            exact ⟨by rw [HT.out, H1.out.1, H1.out.2]; rfl, hkp⟩
        · have hg1 : decide ((b0 : Int) < (b1 : Int)) = false := by simp; omega
          have hg2 : ((b1 : Int) == (b0 : Int)) = false := by simp; omega
          obtain ⟨E, hE⟩ : ∃ E, b0 - b1 = E := ⟨_, rfl⟩
          have q1 : IntKind.u64.wrap ((b0 : Int) - (b1 : Int)) = (E : Int) := by rw [IntKind.wrap_u64]; omega
          have hE0 : 0 < E := by omega
          have hg4 : decide ((a0 : Int) < (a1 : Int)) = false := by simp; omega
          obtain ⟨L, hL⟩ : ∃ L : Nat, (L : Int) = ((a0 : Int) - (a1 : Int)) % 18446744073709551616 := ⟨(((a0 : Int) - (a1 : Int)) % 18446744073709551616).toNat, by omega⟩
          have hLl : L < 18446744073709551616 := by omega
          have q3 : IntKind.u64.wrap ((a0 : Int) - (a1 : Int)) = (L : Int) := by rw [IntKind.wrap_u64]; omega
          obtain ⟨D, hD⟩ : ∃ D, E = D := ⟨E, rfl⟩
          have hT2 : T = ((D : Int) * 18446744073709551616 + L) := by omega
          have hS := fun wx => signed_any false L wx hLl
          have Hfin : Hid ((D ≠ 0 ∨ sgB false L = false → sumV T = 0 ∧ sumE T = 41) ∧ (D = 0 → sgB false L = true → sumV T = sgV false L ∧ sumE T = 0)) := fin_false T D L hT2
          generalize sgV false L = sv at hS Hfin
          generalize sgB false L = sb at hS Hfin
          clear hT2 hL hsum hpb hnb la0 la1 lb0 lb1 hE
          subst hD
          have hdz : ((E : Int) == 0) = false := by simp; omega
          have h1 := Hfin.out.1 (.inl (by omega))
          have H1 : Hid (_ ∧ _) := h1
          clear h1 Hfin
          go_wp2_with fail
          refine (hS _).mono ?_
          rintro e w9 ⟨rfl, rfl⟩
          go_wp2_with fail
          go_ret2
          exact ⟨by rw [HT.out, H1.out.1, H1.out.2]; rfl, hkp⟩
end Go.Proofs.Ytmkippkbodejkaa
