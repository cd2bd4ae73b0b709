import Derived.Test.YtbjidpooociamaaDoorC6
import Derived.Test.YtbjidpooociamaaDoorShelf
namespace Go.Proofs.YtbjidpooociamaaDoor
open Go.RowKit Lb
theorem bitLen_aux : ∀ (f x : Nat), x < 2 ^ f → Lib.bitLenAux f x = bitLen x
  | 0, x, h => by simp at h; subst h; rfl
  | f + 1, x, h => by
    unfold Lib.bitLenAux
    by_cases h0 : x = 0
    · subst h0; rfl
    · rw [if_neg h0, bitLen_aux f (x / 2) (by rw [Nat.pow_succ] at h; omega), bitLen_half x (by omega)]; omega
theorem bitLen_lib (x : Nat) (h : x < 18446744073709551616) : Lib.bitLen x = bitLen x := bitLen_aux 64 x h
set_option maxRecDepth 100000 in
set_option maxHeartbeats 400000 in
theorem Len_any (a : Option Addr) (c : Nat) (l : List Nat) (w : World) (hnc : l.length ≤ c) (hl : l.length ≤ 70368744177664) (hr : Rd w a l) (hm : Lim l) :
    Calls Tryd.prog 23 #[.slice a l.length c] w fun e w' => e = .returned (.int .i64 (lenB l : Nat)) ∧ Dr w w' := by
  have h1 := nl_le l
  have t1 := trim_any a c l w hnc (by omega) hr
  by_cases h0 : nl l = 0
  · have hb : ((nl l : Int) == 0) = true := by simp; omega
    have he : Hid (lenB l = 0) := by show _ = _; unfold lenB; rw [if_pos h0]
    clear h0
    go_enter Tryd.func23, Tryd.ntmps23
    go_wp2_with fail
    refine t1.mono ?_
    rintro e w' ⟨rfl, rfl⟩
    go_wp2
    go_ret
    exact ⟨ret_int (by rw [he.out]; rfl), Dr.refl _⟩
  · obtain ⟨m, hm'⟩ : ∃ m, nl l = m + 1 := ⟨nl l - 1, by omega⟩
    obtain ⟨x, hx⟩ : ∃ x, l.getD m 0 = x := ⟨_, rfl⟩
    have hxl : x < 4294967296 := hx ▸ Lim_getD hm _
    have he : Hid (lenB l = 32 * m + bitLen x) := by show _ = _; unfold lenB; rw [if_neg h0, hm', Nat.add_sub_cancel, hx]
    have hbl := bitLen_le x hxl
    have hb2 : (((m : Int) + 1) == 0) = false := by simp; omega
    obtain ⟨b, o, rfl, hc⟩ := hr m (by omega)
    rw [hx] at hc
    rw [hm'] at t1
    have hml : m ≤ 70368744177664 := by omega
    clear hx h0 hr hm'
    have hL := Tryd.bits_Len32 (x : Nat) w (by omega) (by omega)
    rw [show ((x : Int)).toNat = x from rfl, bitLen_lib x (by omega)] at hL
    go_enter Tryd.func23, Tryd.ntmps23
    go_wp2_with fail
    refine t1.mono ?_
    rintro e w' ⟨rfl, rfl⟩
    go_wp2_with (go_at_call 72; refine hL.mono ?_; rintro e w'' ⟨rfl, rfl⟩)
    go_ret
    exact ⟨ret_int (by rw [he.out]; omega), Dr.refl _⟩

set_option maxRecDepth 100000 in
set_option maxHeartbeats 400000 in
theorem addAt_any (g : Nat) (b : Option Addr) (cb at' : Nat) (r lb : List Nat) (w : World) (hrl : r.length ≤ 70368744177664) (hrow : Row w g r) (hrb : Rd w b lb) (hoff : Off g b lb) (hm : Lim r) (hmb : Lim lb)
    (hfit : at' + lb.length ≤ r.length) (hroom : val r + 4294967296 ^ at' * val lb < 4294967296 ^ r.length) :
    Calls Tryd.prog 99 #[.slice (some ⟨g, 0, none⟩) r.length r.length, .slice b lb.length cb, .int .i64 (at' : Nat)] w fun e w' => e = .returned (.tuple #[]) ∧ ∃ r', Row w' g r' ∧ r'.length = r.length ∧ Lim r' ∧ val r' = val r + 4294967296 ^ at' * val lb ∧ Mut g w w' := by
  go_enter Tryd.func99, Tryd.ntmps99
  go_wp2
  go_loopw [6, 11] (fun c i wr => ∃ (k t : Nat) (rk : List Nat), k ≤ lb.length ∧ t ≤ 1 ∧ i = .int .i64 k ∧ c = .int .u64 t ∧ Row wr g rk ∧ rk.length = r.length ∧ Lim rk ∧ Hid (val rk + t * 4294967296 ^ (at' + k) = val r + 4294967296 ^ at' * val (lb.take k)) ∧ Mut g w wr) (fun _ i _ => lb.length - (intOf i).toNat)
  case atStart => exact ⟨0, 0, r, by omega, by omega, rfl, rfl, hrow, rfl, hm, by show _ = _; simp [val], Mut.refl _ _⟩
  case round =>
    obtain ⟨k, t, rk, hk, ht, rfl, rfl, hrk, hlen, hmk, hv, hmut⟩ := hrel
    by_cases hkl : k < lb.length
    · obtain ⟨b1, o1, rfl, hc1⟩ := (hrb.mut hmut hoff) k hkl
      have hc2 := hrk.cell (at' + k) (by omega)
      have hfz := hrk.frozen (at' + k)
      obtain ⟨x, hx⟩ : ∃ x, rk.getD (at' + k) 0 = x := ⟨_, rfl⟩
      obtain ⟨y, hy⟩ : ∃ y, lb.getD k 0 = y := ⟨_, rfl⟩
      have hxl : x < 4294967296 := hx ▸ Lim_getD hmk _
      have hyl : y < 4294967296 := hy ▸ Lim_getD hmb _
      rw [hx] at hc2
      rw [hy] at hc1
      have Hx : Hid (rk.getD (at' + k) 0 = x) := hx; clear hx
      have Hy : Hid (lb.getD k 0 = y) := hy; clear hy
      have hl2 : at' + k < r.length := by omega
      have Hl : Hid (rk.length = r.length) := hlen; clear hlen
      go_wp2
      go_quiet (fail)
      have hmut1 : Mut g w (wr.drewN nq) := hmut.drewN nq
      have hrk1 : Row (wr.drewN nq) g rk := hrk
      have hc2' : (wr.drewN nq).cell? _ = _ := hc2
      have hfz' : (wr.drewN nq).frozen? _ = _ := hfz
      clear hc1 hc2 hfz hmut hrk
      generalize wr.drewN nq = w1 at hmut1 hrk1 hc2' hfz' ⊢
      go_wp2
      go_roundw
      case rel =>
        refine ⟨k + 1, (t + (x + y)) / 4294967296, rk.set (at' + k) ((t + (x + y)) % 4294967296), by omega, by omega, by go_num, by simp, ?_, by simp [Hl.out], Lim_set hmk _ _ (by omega), ?_, hmut1.setCell _ _⟩
        · have := hrk1.set (at' + k) ((t + (x + y)) % 4294967296); simpa using this
        · show _ = _
          have h1 := addStep rk (at' + k) t x y _ (by rw [Hl.out]; omega) Hx.out hv.out
          rw [show at' + (k + 1) = at' + k + 1 from rfl, h1, val_take_succ, Hy.out, Nat.pow_add, Nat.mul_add, Nat.add_assoc, Nat.mul_left_comm y]
      case measure => simp [intOf]; omega
    · have hke : k = lb.length := by omega
      subst hke
      rw [List.take_of_length_le (Nat.le_refl _)] at hv
      go_wp2
      go_loopw [6, 8] (fun c i wr => ∃ (j t : Nat) (rk : List Nat), j ≤ r.length ∧ t ≤ 1 ∧ i = .int .i64 j ∧ c = .int .u64 t ∧ Row wr g rk ∧ rk.length = r.length ∧ Lim rk ∧ Hid (val rk + t * 4294967296 ^ j = val r + 4294967296 ^ at' * val lb) ∧ Mut g w wr) (fun _ i _ => r.length - (intOf i).toNat)
      case atStart => exact ⟨at' + lb.length, t, rk, by omega, ht, by go_num, rfl, hrk, hlen, hmk, hv, hmut⟩
      case round =>
        clear hv hmut hmk hlen hrk hkl hk ht
        obtain ⟨j, t, rk, hj, ht, rfl, rfl, hrk, hlen, hmk, hv, hmut⟩ := hrel
        by_cases ht0 : 0 < t
        · have hjl : j < r.length := by
            rcases Nat.lt_or_ge j r.length with h | h
            · exact h
            · exact absurd (val_ge_pow hmk j t _ (by omega) ht0 hv.out (by rw [hlen]; exact hroom)) id
          have hc2 := hrk.cell j (by omega)
          have hfz := hrk.frozen j
          obtain ⟨x, hx⟩ : ∃ x, rk.getD j 0 = x := ⟨_, rfl⟩
          have hxl : x < 4294967296 := hx ▸ Lim_getD hmk _
          rw [hx] at hc2
          have Hx : Hid (rk.getD j 0 = x) := hx; clear hx
          have Hl : Hid (rk.length = r.length) := hlen; clear hlen
          go_wp2
          go_roundw
          case rel =>
            refine ⟨j + 1, (t + (x + 0)) / 4294967296, rk.set j ((t + (x + 0)) % 4294967296), by omega, by omega, by go_num, by simp, ?_, by simp [Hl.out], Lim_set hmk _ _ (by omega), ?_, hmut.setCell _ _⟩
            · have := hrk.set j ((t + (x + 0)) % 4294967296); simpa using this
            · show _ = _
              have h1 := addStep rk j t x 0 _ (by rw [Hl.out]; omega) Hx.out hv.out
              rw [h1]; omega
          case measure => simp [intOf]; omega
        · go_wp2
          go_end0
          have ht1 : t = 0 := by omega
          subst ht1
          refine ⟨rfl, rk, hrk, hlen, hmk, ?_, hmut⟩
          have := hv.out
          omega
end Go.Proofs.YtbjidpooociamaaDoor
