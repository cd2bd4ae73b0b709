import Derived.Test.YtbjidpooociamaaDoorJ1
import Derived.Test.YtbjidpooociamaaDoorD7
namespace Go.Proofs.YtbjidpooociamaaDoor
open Go.RowKit Lb
set_option maxRecDepth 100000 in
set_option maxHeartbeats 400000 in
theorem rRead_none (w : World) : Calls Tryd.prog 28 #[.string (S8 [])] w fun e w' => e = .returned (.tuple #[.slice none 0 0, .int .i64 10, .int .i64 0]) ∧ Keep w w' := by
  have hsz : (S8 []).size = 0 := rfl
  go_enter Tryd.func28, Tryd.ntmps28
  go_wp2_with fail
  refine wp_loop_rounds 1 ?_
  rw [rounds_succ]
  go_wp2_with fail
  go_ret3
  exact ⟨rfl, Keep.refl _⟩
set_option maxRecDepth 100000 in
set_option maxHeartbeats 400000 in
theorem rRead_bad (cs : List Nat) (p : Nat) (w : World) (hb : ∀ x ∈ cs, x < 256) (hp : p < cs.length) (hd : ∀ i, i < p → 48 ≤ cs.getD i 0 ∧ cs.getD i 0 < 58) (hx : cs.getD p 0 < 48 ∨ 58 ≤ cs.getD p 0) (hl : cs.length ≤ 1099511627776) :
    Calls Tryd.prog 28 #[.string (S8 cs)] w fun e w' => e = .returned (.tuple #[.slice none 0 0, .int .i64 10, .int .i64 (p : Nat)]) ∧ Keep w w' := by
  have hsz := S8_size cs
  have hx8 := hb (cs.getD p 0) (by simp [List.getD, hp])
  go_enter Tryd.func28, Tryd.ntmps28
  go_wp2_with fail
  go_loopw [5] (fun iv wr => ∃ k : Nat, k ≤ p ∧ iv = .int .i64 k ∧ Keep w wr) (fun iv _ => cs.length - (intOf iv).toNat)
  case atStart => exact ⟨0, by omega, rfl, Keep.refl _⟩
  case round =>
    obtain ⟨k, hk, rfl, hkp⟩ := hrel
    have hkl : k < cs.length := by omega
    have hks : k < (S8 cs).size := by rw [hsz]; exact hkl
    by_cases hkp' : k < p
    · obtain ⟨hx1, hx2⟩ := hd k hkp'
      have hg := S8_get cs k hks (by omega)
      obtain ⟨x, hx⟩ : ∃ x, cs.getD k 0 = x := ⟨_, rfl⟩
      rw [hx] at hx1 hx2 hg
      have hd1 : decide ((x : Int) < 48) = false := by simp; omega
      go_wp2_with fail
      go_roundw
      case rel => exact ⟨k + 1, by omega, by go_num, hkp⟩
      case measure => simp [intOf]; omega
    · obtain rfl : k = p := by omega
      have hg := S8_get cs k hks hx8
      obtain ⟨x, hx'⟩ : ∃ x, cs.getD k 0 = x := ⟨_, rfl⟩
      rw [hx'] at hx hg hx8
      by_cases hlow : x < 48
      · have hd1 : decide ((x : Int) < 48) = true := by simp; omega
        go_wp2_with fail
        go_ret3
        exact ⟨rfl, hkp⟩
      · have hd1 : decide ((x : Int) < 48) = false := by simp; omega
        have hd2 : decide ((57 : Int) < (x : Int)) = true := by simp; omega
        go_wp2_with fail
        go_ret3
        exact ⟨rfl, hkp⟩
theorem numv_cut (cs : List Nat) (i j : Nat) (hij : i ≤ j) (hj : j ≤ cs.length) : numv (cs.take j) = numv (cs.take i) * 10 ^ (j - i) + numv ((cs.take j).drop i) := by
  have h := numv_append ((cs.take j).take i) ((cs.take j).drop i)
  rw [List.take_append_drop, List.take_take, Nat.min_eq_left hij, List.length_drop, List.length_take, Nat.min_eq_left hj] at h
  exact h
theorem numv_more (cs : List Nat) (i j : Nat) (hij : i ≤ j) (hj : j < cs.length) : numv ((cs.take (j + 1)).drop i) = numv ((cs.take j).drop i) * 10 + (cs.getD j 0 - 48) := by
  have e : cs.take (j + 1) = cs.take j ++ [cs.getD j 0] := by
    rw [List.take_succ_eq_append_getElem hj]
    simp [List.getD, hj]
  rw [e, List.drop_append_of_le_length (by simp; omega), numv_snoc]
theorem ten_lt (i : Nat) (V : Nat) (h : V < 10 ^ i) : V < 4294967296 ^ i := Nat.lt_of_lt_of_le h (Nat.pow_le_pow_left (by omega) _)
set_option maxRecDepth 100000 in
set_option maxHeartbeats 1600000 in
theorem rRead_good (cs : List Nat) (w : World) (hcs : ∀ x ∈ cs, 48 ≤ x ∧ x < 58) (h0 : cs ≠ []) (hl : cs.length ≤ 1048576) :
    Calls Tryd.prog 28 #[.string (S8 cs)] w fun e w' => ∃ v l, e = .returned (.tuple #[v, .int .i64 0, .int .i64 0]) ∧ Own w.heap.size w' v l ∧ Lim l ∧ Nrm l ∧ val l = numv cs ∧ Keep w w' := by
  have hsz := S8_size cs
  have hpos : 0 < cs.length := List.length_pos_iff.2 h0
  have hne0 : ((cs.length : Int) == 0) = false := by simp; omega
  have hdig : ∀ k, k < cs.length → 48 ≤ cs.getD k 0 ∧ cs.getD k 0 < 58 := fun k hk => hcs _ (by simp [List.getD, hk])
  go_enter Tryd.func28, Tryd.ntmps28
  go_wp2_with fail
  go_loopw [5] (fun iv wr => ∃ k : Nat, k ≤ cs.length ∧ iv = .int .i64 k ∧ w = wr) (fun iv _ => cs.length - (intOf iv).toNat)
  case atStart => exact ⟨0, by omega, rfl, rfl⟩
  case round =>
    obtain ⟨k, hk, rfl, rfl⟩ := hrel
    by_cases hkl : k < cs.length
    · have hks : k < (S8 cs).size := by rw [hsz]; exact hkl
      obtain ⟨hx1, hx2⟩ := hdig k hkl
      have hg := S8_get cs k hks (by omega)
      obtain ⟨x, hx⟩ : ∃ x, cs.getD k 0 = x := ⟨_, rfl⟩
      rw [hx] at hx1 hx2 hg
      have hd1 : decide ((x : Int) < 48) = false := by simp; omega
      go_wp2_with fail
      go_roundw
      case rel => exact ⟨k + 1, by omega, by go_num, by first | rfl | trivial⟩
      case measure => simp [intOf]; omega
    · go_wp2_with fail
      clear hkl hk
      go_loopw [6, 7] (fun ov iv wr => ∃ (i : Nat) (lo : List Nat), i ≤ cs.length + 9 ∧ iv = .int .i64 i ∧ Own w.heap.size wr ov lo ∧ Lim lo ∧ Nrm lo ∧ Hid (val lo = numv (cs.take i)) ∧ Keep w wr) (fun _ iv _ => cs.length - (intOf iv).toNat)
      case atStart => exact ⟨0, [], by omega, rfl, World.ownsRow_nil _ _ _ _, by intro x hx; simp at hx, by simp [Nrm], rfl, Keep.refl _⟩
      case round =>
        obtain ⟨i, lo, hi, rfl, oo, mo, no, eo, hkp⟩ := hrel
        have oo' := oo
        obtain ⟨ao, co, rfl, hco, ro⟩ := oo.shape
        by_cases hil : i < cs.length
        · have hlo : lo.length ≤ i := len_le_pow no i (by
            rw [eo.out]
            have h1 := numv_lt (cs.take i) (fun x hx => hcs x (List.mem_of_mem_take hx))
            rw [List.length_take, Nat.min_eq_left (by omega)] at h1
            exact ten_lt i _ h1)
          go_wp2_with fail
          go_loopw [8, 9, 10] (fun nv tv jv wx => ∃ (j n t : Nat), i ≤ j ∧ j ≤ cs.length ∧ j ≤ i + 9 ∧ jv = .int .i64 j ∧ nv = .int .u64 n ∧ tv = .int .u64 t ∧ n < t ∧ t ≤ 1000000000 ∧ Hid (t = 10 ^ (j - i)) ∧ Hid (n = numv ((cs.take j).drop i)) ∧ wr = wx) (fun _ _ jv _ => cs.length - (intOf jv).toNat)
          case atStart => exact ⟨i, 0, 1, by omega, by omega, by omega, rfl, rfl, rfl, by omega, by omega, by show _ = _; simp, by show _ = _; simp [numv], by first | rfl | trivial⟩
          case round =>
            obtain ⟨j, n, t, hij, hjl, hj9, rfl, rfl, rfl, hnt, ht9, et, en, hwx⟩ := hrel
            subst hwx
            by_cases hgo : j < cs.length ∧ j < i + 9
            · obtain ⟨hj1, hj2⟩ := hgo
              have hks : j < (S8 cs).size := by rw [hsz]; exact hj1
              obtain ⟨hx1, hx2⟩ := hdig j hj1
              have hg := S8_get cs j hks (by omega)
              have hmore := numv_more cs i j hij hj1
              obtain ⟨x, hx⟩ : ∃ x, cs.getD j 0 = x := ⟨_, rfl⟩
              rw [hx] at hx1 hx2 hg hmore
              have ht8 : t ≤ 100000000 := by
                rw [et.out]
                exact Nat.le_trans (Nat.pow_le_pow_right (by omega) (show j - i ≤ 8 by omega)) (by decide)
              have HT : Hid (10 * t = 10 ^ (j + 1 - i)) := by
                show _ = _
                rw [et.out, show j + 1 - i = (j - i) + 1 by omega, Nat.pow_succ, Nat.mul_comm]
              have HN : Hid (10 * n + (x - 48) = numv ((cs.take (j + 1)).drop i)) := by
                show _ = _
                rw [hmore, en.out, Nat.mul_comm]
              have hg1 : decide ((j : Int) < (cs.length : Int)) = true := by simp; omega
              have hg2 : decide ((j : Int) < (i : Int) + 9) = true := by simp; omega
              clear hmore et en hx
              go_wp2_with fail
              go_roundw
              case rel => exact ⟨j + 1, 10 * n + (x - 48), 10 * t, by omega, by omega, by omega, by go_num, by simp; omega, by simp, by omega, by omega, HT, HN, by first | rfl | trivial⟩
              case measure => simp [intOf]; omega
            · have hgo0 := hgo
              have hg12 : j = cs.length ∨ (j = i + 9 ∧ j < cs.length) := by omega
              have HJ : Hid (numv (cs.take (i + 9)) = numv (cs.take i) * t + n) := by
                show _ = _
                have h1 := numv_cut cs i j hij hjl
                rw [et.out, en.out, ← h1]
                congr 1
                by_cases h9 : j = i + 9
                · rw [h9]
                · rw [List.take_of_length_le (by omega), List.take_of_length_le (by omega)]
              have hF1 := fun wx => rFrom_any t wx (by omega)
              have hF2 := fun wx => rFrom_any n wx (by omega)
              clear et en hgo0 hgo
              rcases hg12 with rfl | ⟨rfl, hg1⟩
              all_goals
                go_wp2_with fail
                refine (hF1 wr).mono ?_
                rintro e w3 ⟨v3, l3, rfl, o3, m3, p3, e3, k3⟩
                obtain ⟨a3, c3, rfl, hc3, r3⟩ := o3.shape
                have hl3 := len_two p3 (by omega)
                have hM := rMul_any ao a3 co c3 lo l3 w3 (by omega) (by omega) (by omega) (ro.keep k3) r3 mo m3
                go_wp2_with fail
                refine hM.mono ?_
                rintro e w4 ⟨v4, l4, rfl, o4, m4, p4, e4, k4⟩
                obtain ⟨a4, c4, rfl, hc4, r4⟩ := o4.shape
                have hl4 : l4.length ≤ lo.length + l3.length := len_le_pow p4 _ (by
                  rw [e4, Nat.pow_add]
                  exact Nat.mul_lt_mul_of_lt_of_le (val_lt mo) (Nat.le_of_lt (val_lt m3)) (Nat.pos_of_ne_zero (by simp)))
                clear hM
                go_wp2_with fail
                refine (hF2 w4).mono ?_
                rintro e w5 ⟨v5, l5, rfl, o5, m5, p5, e5, k5⟩
                obtain ⟨a5, c5, rfl, hc5, r5⟩ := o5.shape
                have hl5 := len_two p5 (by omega)
                have hA := rAdd_any a4 a5 c4 c5 l4 l5 w5 (by omega) (by omega) (r4.keep k5) r5 m4 m5
                go_wp2_with fail
                refine hA.mono ?_
                rintro e w6 ⟨v6, l6, rfl, o6, m6, p6, e6, k6⟩
                have o6' := o6
                obtain ⟨a6, c6, rfl, hc6, r6⟩ := o6.shape
                have H6 : Hid (val l6 = numv (cs.take (i + 9))) := by show _ = _; rw [e6, e4, e3, e5, HJ.out, eo.out]
                have kk := ((hkp.trans k3).trans k4).trans k5
                clear hA e3 e4 e5 e6 HJ eo
                go_wp2_with fail
                go_roundw
                case rel => exact ⟨i + 9, l6, by omega, by go_num, o6'.mono kk.le, m6, p6, H6, kk.trans k6⟩
                case measure => simp [intOf]; omega
        · have HE : Hid (val lo = numv cs) := by
            show _ = _
            rw [eo.out, List.take_of_length_le (by omega)]
          have hg1 : decide ((i : Int) < (cs.length : Int)) = false := by simp; omega
          go_wp2_with fail
          go_ret3
          exact ⟨_, _, rfl, oo', mo, no, HE.out, hkp⟩
end Go.Proofs.YtbjidpooociamaaDoor
