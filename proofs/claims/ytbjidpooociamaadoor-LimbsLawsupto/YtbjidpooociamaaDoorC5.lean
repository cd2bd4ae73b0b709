import Derived.Test.YtbjidpooociamaaDoorC4
import Derived.Laws.MathBits
namespace Go.Proofs.YtbjidpooociamaaDoor
open Go.RowKit Lb
def bitV (l : List Nat) (n : Int) : Bool :=
  if 0 ≤ n ∧ n / 32 < (l.length : Int) then bits BinOp.and IntKind.u32 (((l.getD (n / 32).toNat 0 : Nat) : Int) / 2 ^ (n % 32).toNat) 1 == 1 else false
set_option maxRecDepth 100000 in
set_option maxHeartbeats 400000 in
theorem Bit_any (a : Option Addr) (c : Nat) (l : List Nat) (n : Int) (w : World) (_hl : l.length ≤ 70368744177664) (hr : Rd w a l) (hm : Lim l) (_hn : -9223372036854775808 ≤ n) (_hn' : n ≤ 9223372036854775807) :
    Calls Tryd.prog 25 #[.slice a l.length c, .int .i64 n] w fun e w' => e = .returned (.bool (bitV l n)) ∧ w' = w := by
  by_cases h0 : n < 0
  · go_enter Tryd.func25, Tryd.ntmps25
    go_wp2
    go_ret
    exact ⟨ret_bool (by unfold bitV; rw [if_neg (by omega)]), rfl⟩
  · have h0' : decide (n < 0) = false := by simp; omega
    by_cases h1 : n / 32 < l.length
    · obtain ⟨b, o, rfl, hc⟩ := hr (n / 32).toNat (by omega)
      obtain ⟨x, hx⟩ : ∃ x, l.getD (n / 32).toNat 0 = x := ⟨_, rfl⟩
      rw [hx] at hc
      have hxl : x < 4294967296 := hx ▸ Lim_getD hm _
      have Hx : Hid (l.getD (n / 32).toNat 0 = x) := hx; clear hx
      go_enter Tryd.func25, Tryd.ntmps25
      go_wp2
      go_ret
      exact ⟨ret_bool (by unfold bitV; rw [if_pos ⟨by omega, h1⟩, Hx.out]), rfl⟩
    · go_enter Tryd.func25, Tryd.ntmps25
      go_wp2
      go_ret
      exact ⟨ret_bool (by unfold bitV; rw [if_neg (by omega)]), rfl⟩
set_option maxRecDepth 100000 in
set_option maxHeartbeats 400000 in
theorem rBit_any (a : Option Addr) (c : Nat) (l : List Nat) (n : Int) (w : World) (_hl : l.length ≤ 70368744177664) (hr : Rd w a l) (hm : Lim l) (_hn : -9223372036854775808 ≤ n) (_hn' : n ≤ 9223372036854775807) :
    Calls Tryd.prog 26 #[.slice a l.length c, .int .i64 n] w fun e w' => e = .returned (.bool (bitV l n)) ∧ w' = w := by
  by_cases h0 : n < 0
  · have h0' : decide (0 ≤ n) = false := by simp; omega
    go_enter Tryd.func26, Tryd.ntmps26
    go_wp2
    go_ret
    exact ⟨ret_bool (by unfold bitV; rw [if_neg (by omega)]), rfl⟩
  · have h0' : 0 ≤ n := by omega
    by_cases h1 : n / 32 < l.length
    · obtain ⟨b, o, rfl, hc⟩ := hr (n / 32).toNat (by omega)
      obtain ⟨x, hx⟩ : ∃ x, l.getD (n / 32).toNat 0 = x := ⟨_, rfl⟩
      rw [hx] at hc
      have hxl : x < 4294967296 := hx ▸ Lim_getD hm _
      have Hx : Hid (l.getD (n / 32).toNat 0 = x) := hx; clear hx
      go_enter Tryd.func26, Tryd.ntmps26
      go_wp2
      go_ret
      exact ⟨ret_bool (by unfold bitV; rw [if_pos ⟨by omega, h1⟩, Hx.out]), rfl⟩
    · have h1' : decide (n / 32 < (l.length : Int)) = false := by simp; omega
      go_enter Tryd.func26, Tryd.ntmps26
      go_wp2
      go_ret
      exact ⟨ret_bool (by unfold bitV; rw [if_neg (by omega)]), rfl⟩

set_option maxRecDepth 100000 in
set_option maxHeartbeats 400000 in
theorem Same_any (a b : Option Addr) (ca cb : Nat) (l : List Nat) (w : World) (_hl : l.length ≤ 70368744177664) (hra : Rd w a l) (hrb : Rd w b l) :
    Calls Tryd.prog 16 #[.slice a l.length ca, .slice b l.length cb] w fun e w' => e = .returned (.bool true) ∧ Dr w w' := by
  go_enter Tryd.func16, Tryd.ntmps16
  go_wp2
  go_loopw [13] (fun i wr => ∃ k : Nat, k ≤ l.length ∧ i = .int .i64 k ∧ Dr w wr) (fun i _ => l.length - (intOf i).toNat)
  case atStart => exact ⟨0, Nat.zero_le _, rfl, Dr.refl _⟩
  case round =>
    obtain ⟨k, hk, rfl, hd⟩ := hrel
    by_cases hkl : k < l.length
    · obtain ⟨b1, o1, rfl, hc1⟩ := hra k hkl
      obtain ⟨b2, o2, rfl, hc2⟩ := hrb k hkl
      obtain ⟨x, hx⟩ : ∃ x, l.getD k 0 = x := ⟨_, rfl⟩
      rw [hx, ← hd.cell] at hc1
      rw [hx, ← hd.cell] at hc2
      clear hx
      go_wp2
      go_quiet (fail)
      go_wp2
      go_roundw
      case rel => exact ⟨k + 1, by omega, by go_num, hd.drewN _⟩
      case measure => simp [intOf]; omega
    · go_wp2
      go_ret
      exact ⟨rfl, hd⟩

set_option maxRecDepth 100000 in
set_option maxHeartbeats 400000 in
theorem Cmp_any (a b : Option Addr) (ca cb : Nat) (la lb : List Nat) (w : World) (hca : la.length ≤ ca) (hcb : lb.length ≤ cb) (hla : la.length ≤ 70368744177664) (hlb : lb.length ≤ 70368744177664) (hra : Rd w a la) (hrb : Rd w b lb) :
    Calls Tryd.prog 21 #[.slice a la.length ca, .slice b lb.length cb] w fun e w' => e = .returned (.int .i64 (cmpL (la.take (nl la)) (lb.take (nl lb)))) ∧ Dr w w' := by
  have h1 := nl_le la
  have h2 := nl_le lb
  have e1 : (la.take (nl la)).length = nl la := by simp; omega
  have e2 : (lb.take (nl lb)).length = nl lb := by simp; omega
  have hc := compare_any a b ca cb (la.take (nl la)) (lb.take (nl lb)) w (by omega) (by omega) (hra.take _) (hrb.take _)
  rw [e1, e2] at hc
  have t1 := trim_any a ca la w hca (by omega) hra
  have t2 := trim_any b cb lb w hcb (by omega) hrb
  go_enter Tryd.func21, Tryd.ntmps21
  go_wp2_with fail
  refine t1.mono ?_
  rintro e w' ⟨rfl, rfl⟩
  go_wp2_with fail
  refine t2.mono ?_
  rintro e w' ⟨rfl, rfl⟩
  go_wp2_with fail
  refine hc.mono ?_
  rintro e w' ⟨rfl, hd⟩
  go_wp2
  go_ret
  exact ⟨rfl, hd⟩

def smallV (l : List Nat) : Nat := if nl l ≤ 2 then val l else 0
def smallB (l : List Nat) : Bool := decide (nl l ≤ 2)
set_option maxRecDepth 100000 in
set_option maxHeartbeats 400000 in
theorem Small_any (a : Option Addr) (c : Nat) (l : List Nat) (w : World) (hnc : l.length ≤ c) (hl : l.length ≤ 70368744177664) (hr : Rd w a l) (hm : Lim l) :
    Calls Tryd.prog 13 #[.slice a l.length c] w fun e w' => e = .returned (.tuple #[.int .u64 (smallV l : Nat), .bool (smallB l)]) ∧ w' = w := by
  have h1 := nl_le l
  have e1 : (l.take (nl l)).length = nl l := by simp; omega
  have t1 := trim_any a c l w hnc (by omega) hr
  have t2 := low64_any a c (l.take (nl l)) w (by omega) (hr.take _) (Lim_take hm _)
  rw [e1] at t2
  by_cases h2 : 2 < nl l
  · go_enter Tryd.func13, Tryd.ntmps13
    go_wp2_with fail
    refine t1.mono ?_
    rintro e w' ⟨rfl, rfl⟩
    go_wp2
    go_ret2
    exact ⟨by simp [smallV, smallB, show ¬ nl l ≤ 2 by omega], rfl⟩
  · have hd : decide (2 < nl l) = false := by simp; omega
    have ev : val ((l.take (nl l)).take 2) = val l := by rw [List.take_of_length_le (by omega), val_take_nl]
    rw [ev] at t2
    go_enter Tryd.func13, Tryd.ntmps13
    go_wp2_with fail
    refine t1.mono ?_
    rintro e w' ⟨rfl, rfl⟩
    go_wp2_with fail
    refine t2.mono ?_
    rintro e w' ⟨rfl, rfl⟩
    go_wp2
    go_ret2
    exact ⟨by simp [smallV, smallB, show nl l ≤ 2 by omega], rfl⟩
theorem and64 (n : Nat) (hn : n < 18446744073709551616) : bits .and .u64 (n : Int) 4294967295 = ((n % 4294967296 : Nat) : Int) := by
  have := u64_and_nat n 4294967295 hn (by omega)
  rw [show n &&& 4294967295 = n % 4294967296 from Nat.and_two_pow_sub_one_eq_mod n 32] at this
  exact this
set_option maxRecDepth 100000 in
set_option maxHeartbeats 400000 in
theorem rFrom_any (n : Nat) (w : World) (hn : n < 18446744073709551616) :
    Calls Tryd.prog 20 #[.int .u64 (n : Nat)] w fun e w' => ∃ v l, e = .returned v ∧ Own w.heap.size w' v l ∧ Lim l ∧ Nrm l ∧ val l = n ∧ Keep w w' := by
  have hand := and64 n hn
  go_enter Tryd.func20, Tryd.ntmps20
  go_wp2_with fail
  have hrow : Row (w.alloc (Obj.cells #[Value.int IntKind.u32 (↑n % 4294967296), Value.int IntKind.u32 (↑n / 4294967296)] 62)) w.heap.size [n % 4294967296, n / 4294967296] := by
    unfold Row; rw [heap_alloc_new]; simp [U]
  have hk : Keep w (w.alloc (Obj.cells #[Value.int IntKind.u32 (↑n % 4294967296), Value.int IntKind.u32 (↑n / 4294967296)] 62)) := (Keep.refl w).alloc _
  generalize w.alloc _ = w1 at hrow hk ⊢
  refine (rNorm_any (some ⟨w.heap.size, 0, none⟩) 2 [n % 4294967296, n / 4294967296] w1 (by simp) (by simp) (hrow.rd 0 2 (by simp))).mono ?_
  rintro e w' ⟨v, rfl, hown, hk'⟩
  go_wp2
  go_ret
  exact ⟨_, [n % 4294967296, n / 4294967296].take (nl [n % 4294967296, n / 4294967296]), rfl, hown.mono hk.le, Lim_take (by intro x hx; simp at hx; omega) _, Nrm_take _, by rw [val_take_nl]; simp [val]; omega, hk.trans hk'⟩
def lenB (l : List Nat) : Nat := if nl l = 0 then 0 else 32 * (nl l - 1) + bitLen (l.getD (nl l - 1) 0)
theorem bitLen_half (x : Nat) (h : 0 < x) : bitLen x = bitLen (x / 2) + 1 := by
  by_cases h1 : x / 2 = 0
  · have : x = 1 := by omega
    subst this; decide
  · have := bitLen_shift x 1 (by simpa using h1)
    simp at this; omega
theorem bitLen_le (x : Nat) (h : x < 4294967296) : bitLen x ≤ 32 := by
  unfold bitLen
  split
  · omega
  · rename_i h0
    have := (Nat.log2_lt h0).2 (show x < 2 ^ 32 from h)
    omega
set_option maxRecDepth 100000 in
set_option maxHeartbeats 400000 in
theorem rLen_any (a : Option Addr) (c : Nat) (l : List Nat) (w : World) (hnc : l.length ≤ c) (hl : l.length ≤ 35184372087808) (hr : Rd w a l) (hm : Lim l) :
    Calls Tryd.prog 24 #[.slice a l.length c] w fun e w' => e = .returned (.int .i64 (lenB l : Nat)) ∧ Keep w w' := by
  have h1 := nl_le l
  have e1 : (l.take (nl l)).length = nl l := by simp; omega
  by_cases h0 : nl l = 0
  · have hb : ((nl l : Int) == 0) = true := by simp; omega
    have he : Hid (lenB l = 0) := by show _ = _; unfold lenB; rw [if_pos h0]
    clear h0
    go_enter Tryd.func24, Tryd.ntmps24
    go_wp2_with fail
    refine (rNorm_any a c l w hnc hl hr).mono ?_
    rintro e w' ⟨v, rfl, hown, hk'⟩
    obtain ⟨a', c', rfl, hc', hr'⟩ := hown.shape
    rw [e1]
    go_wp2
    go_ret
    exact ⟨ret_int (by rw [he.out]; rfl), hk'⟩
  · have hb : ((nl l : Int) == 0) = false := by simp; omega
    obtain ⟨m, hm'⟩ : ∃ m, nl l = m + 1 := ⟨nl l - 1, by omega⟩
    obtain ⟨x, hx⟩ : ∃ x, l.getD m 0 = x := ⟨_, rfl⟩
    have hxl : x < 4294967296 := hx ▸ Lim_getD hm _
    have he : Hid (lenB l = 32 * m + bitLen x) := by show _ = _; unfold lenB; rw [if_neg h0, hm', Nat.add_sub_cancel, hx]
    have Hm : Hid (nl l = m + 1) := hm'
    have hbl := bitLen_le x hxl
    go_enter Tryd.func24, Tryd.ntmps24
    go_wp2_with fail
    refine (rNorm_any a c l w hnc hl hr).mono ?_
    rintro e w' ⟨v, rfl, hown, hk'⟩
    obtain ⟨a', c', rfl, hc', hr'⟩ := hown.shape
    rw [e1, hm']
    obtain ⟨b, o, rfl, hc⟩ := hr' m (by omega)
    have hx2 : (List.take (nl l) l).getD m 0 = x := by rw [← hx]; simp [List.getD, hm']
    rw [hx2] at hc
    clear hx hx2 hr' hown hm' h0 hb hr e1
    have hml : m ≤ 35184372087808 := by have := Hm.out; omega
    clear h1
    have hb2 : (((m : Int) + 1) == 0) = false := by simp; omega
    go_wp2
    go_loop [4, 5] (fun n t => ∃ k y : Nat, y < 4294967296 ∧ k + bitLen y = 32 * m + bitLen x ∧ k ≤ 32 * m + 32 ∧ n = .int .i64 k ∧ t = .int .u32 y) (fun _ t => (intOf t).toNat)
    case atStart => exact ⟨32 * m, x, hxl, rfl, by omega, by simp, rfl⟩
    case round =>
      obtain ⟨k, y, hy, hsum, hk2, rfl, rfl⟩ := hrel
      have Hs : Hid (k + bitLen y = 32 * m + bitLen x) := hsum
      clear hsum
      by_cases hy0 : 0 < y
      · have hh := bitLen_half y hy0
        have Hh : Hid (bitLen y = bitLen (y / 2) + 1) := hh
        have hk3 : k < 32 * m + 32 := by have := Hs.out; omega
        clear hh
        go_wp2
        go_round
        case rel => exact ⟨k + 1, y / 2, by omega, by have := Hs.out; have := Hh.out; omega, by omega, by go_num, by simp⟩
        case measure => simp [intOf]; omega
      · go_wp2
        go_ret
        exact ⟨ret_int (by
          have := Hs.out
          rw [show y = 0 by omega] at this
          simp [bitLen] at this
          rw [he.out, bitLen]; omega), hk'⟩
end Go.Proofs.YtbjidpooociamaaDoor
