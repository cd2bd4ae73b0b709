import Derived.Test.YtgmnadlmejkkpaaDoorI2
import Derived.Test.YtgmnadlmejkkpaaDoorI3
set_option linter.unusedVariables false
set_option linter.unusedSimpArgs false
namespace Go.Proofs.YtgmnadlmejkkpaaDoor
open Go.RowKit
theorem put_or (x b : Nat) (hx : x < 18446744073709551616) (hb : b < 18446744073709551616) : x &&& (18446744073709551615 - b) ||| b = x ||| b := by
  have e : ∀ i, (18446744073709551615 - b).testBit i = (decide (i < 64) && !b.testBit i) := by
    intro i
    have := Nat.testBit_two_pow_sub_succ (n := 64) hb i
    rw [show 18446744073709551615 - b = 2 ^ 64 - (b + 1) by omega]
    exact this
  apply Nat.eq_of_testBit_eq
  intro i
  rw [Nat.testBit_or, Nat.testBit_and, Nat.testBit_or, e]
  by_cases hi : i < 64
  · rw [decide_eq_true hi]; cases x.testBit i <;> cases b.testBit i <;> rfl
  · have hxi : x.testBit i = false := Nat.testBit_lt_two_pow (Nat.lt_of_lt_of_le hx (Nat.pow_le_pow_right (n := 2) (i := 64) (j := i) (by omega) (by omega)))
    rw [hxi]; simp
theorem rPut_no (a : Option Addr) (c : Nat) (i : Int) (l : List Nat) (inb : Bool) (w : World) (hi : i ≤ 9223372036854775807) (hn : ¬ (0 ≤ i ∧ i < 64 * (l.length : Int))) :
    Calls Tryd.prog 29 #[.slice a l.length c, .int .i64 i, .bool inb] w fun e w' => e = .returned (.tuple #[.slice none 0 0, .int .i64 2]) ∧ w' = w := by
  by_cases h0 : i < 0
  · go_enter Tryd.func29, Tryd.ntmps29
    go_wp2_with fail
    go_ret2
    exact ⟨rfl, rfl⟩
  · obtain ⟨n, rfl⟩ := Int.eq_ofNat_of_zero_le (show 0 ≤ i by omega)
    have h1 : (l.length : Int) ≤ (n : Int) / 64 := by omega
    clear hn
    go_enter Tryd.func29, Tryd.ntmps29
    go_wp2_with fail
    go_ret2
    exact ⟨rfl, rfl⟩
/-- What Put puts. -/
def putW (inb : Bool) (x b : Nat) : Nat := if inb then x ||| b else x &&& (18446744073709551615 - b)
set_option maxRecDepth 100000 in
set_option maxHeartbeats 1000000 in
theorem rPut_ok (a : Option Addr) (c n : Nat) (l : List Nat) (inb : Bool) (w : World) (hl : l.length ≤ 17592186043904) (hn : n < 64 * l.length) (hr : Rd w a l) (hw : W64 l) :
    Calls Tryd.prog 29 #[.slice a l.length c, .int .i64 (n : Nat), .bool inb] w fun e w' => LstA w w' e 0 (l.set (n / 64) (putW inb (l.getD (n / 64) 0) (2 ^ (n % 64)))) := by
  obtain ⟨q, hq⟩ : ∃ q, n / 64 = q := ⟨_, rfl⟩
  obtain ⟨r, hrr⟩ : ∃ r, n % 64 = r := ⟨_, rfl⟩
  rw [hq, hrr]
  have hqi : (n : Int) / 64 = (q : Int) := by omega
  have hri : (n : Int) % 64 = (r : Int) := by omega
  have hql : q < l.length := by omega
  have hr64 : r < 64 := by omega
  have hn9 : n ≤ 9223372036854775807 := by omega
  obtain ⟨b, o, rfl, -⟩ := hr q hql
  have hxl := W64_getD hw q
  have hbl := bit_lt hr64
  have hwb := wrapbit hr64
  obtain ⟨x, hx⟩ : ∃ x, l.getD q 0 = x := ⟨_, rfl⟩
  obtain ⟨bt, hbt⟩ : ∃ bt, 2 ^ r = bt := ⟨_, rfl⟩
  rw [hx] at hxl
  rw [hbt] at hbl hwb
  have h1 := u64_andNot_nat x bt hxl hbl
  have hyl : x &&& (18446744073709551615 - bt) < 18446744073709551616 := and_lt _ hxl
  have h2 := u64_or_nat (x &&& (18446744073709551615 - bt)) bt hyl hbl
  rw [put_or x bt hxl hbl] at h2
  have Hx : Hid (l.getD q 0 = x ∧ 2 ^ r = bt) := ⟨hx, hbt⟩
  clear hq hrr hbt
  obtain ⟨y, hy⟩ : ∃ y, x &&& (18446744073709551615 - bt) = y := ⟨_, rfl⟩
  have Hy : Hid (x &&& (18446744073709551615 - bt) = y) := hy
  rw [hy] at h1 h2 hyl
  clear hy
  go_enter Tryd.func29, Tryd.ntmps29
  go_wp2_with (at_builtin; refine wpList_copyn rfl _ _ rfl l ⟨b, o, none⟩ c ?_ ?_ hr (by omega) ?_; rotate_left 2; intro v w1 o1 k1)
  obtain ⟨g, cur, cap, rfl, hg, hrow, hcap, hcu⟩ := o1.cells (by omega)
  have hc0 := hrow.cell q
  rw [hcu q hql, hx] at hc0
  have hfz := hrow.frozen q
  have hrow2 := hrow.set q (.int .u64 (y : Nat))
  have hcu2 := cells_set hcu hql y
  have hc2 := hrow2.cell q
  rw [hcu2 q (by rw [List.length_set]; exact hql)] at hc2
  rw [show (l.set q y).getD q 0 = y by simp [List.getD, hql]] at hc2
  have hfz2 := hrow2.frozen q
  have Hset : Hid (∀ y : Nat, ∀ j, j < (l.set q y).length → (cur.setIfInBounds q (.int .u64 (y : Nat)))[j]? = some (.int .u64 ((l.set q y).getD j 0 : Nat))) := fun y => cells_set hcu hql y
  have Hset2 : Hid (∀ z : Nat, ∀ j, j < (l.set q z).length → ((cur.setIfInBounds q (.int .u64 (y : Nat))).setIfInBounds q (.int .u64 (z : Nat)))[j]? = some (.int .u64 ((l.set q z).getD j 0 : Nat))) := by
    show ∀ z, _
    intro z
    have := cells_set hcu2 (q := q) (by rw [List.length_set]; exact hql) z
    rw [List.set_set] at this
    exact this
  have Hlen : Hid (∀ y, (l.set q y).length = l.length) := fun y => List.length_set ..
  clear hcu hcu2 o1 hx
  cases inb
  · go_simp
    go_wp2_with fail
    go_ret2
    rw [Hx.out.1, Hx.out.2, show putW false x bt = y from Hy.out]
    exact ⟨some ⟨g, 0, none⟩, cap, by rw [Hlen.out]; rfl, by rw [Hlen.out]; exact hcap, Rd.of_rowC hrow2 (Hset.out _), k1.setCell hg _⟩
  · go_simp
    go_wp2_with fail
    go_ret2
    rw [Hx.out.1, Hx.out.2, show putW true x bt = x ||| bt from rfl]
    exact ⟨some ⟨g, 0, none⟩, cap, by rw [Hlen.out]; rfl, by rw [Hlen.out]; exact hcap, Rd.of_rowC (hrow2.set q _) (Hset2.out _), (k1.setCell hg _).setCell hg _⟩
  all_goals rfl
end Go.Proofs.YtgmnadlmejkkpaaDoor
