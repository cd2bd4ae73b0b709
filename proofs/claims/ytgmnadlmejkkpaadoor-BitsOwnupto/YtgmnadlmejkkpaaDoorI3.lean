import Derived.Test.YtgmnadlmejkkpaaDoorI1
import Derived.Deep.RegionWith
set_option linter.unusedVariables false
set_option linter.unusedSimpArgs false
namespace Go.Proofs.YtgmnadlmejkkpaaDoor
open Go.RowKit
set_option maxRecDepth 100000 in
set_option maxHeartbeats 1000000 in
theorem changed_Less (a : Option Addr) (c n : Nat) (l : List Nat) (w : World) (hl : l.length ≤ 17592186043904) (hn : n < 64 * l.length) (hr : Rd w a l) (hw : W64 l) :
    Calls Tryd.prog 61 #[.slice a l.length c, .int .i64 (n : Nat), .func (.func 63) #[] #[]] w fun e w' => LstA w w' e 0 (l.set (n / 64) (l.getD (n / 64) 0 &&& (18446744073709551615 - 2 ^ (n % 64)))) := by
  have hL := fun w => lies_any a c l.length (n : Int) w (by omega) (by omega)
  rw [decide_eq_true (p := 0 ≤ (n : Int) ∧ (n : Int) < 64 * (l.length : Int)) (by omega)] at hL
  obtain ⟨q, hq⟩ : ∃ q, n / 64 = q := ⟨_, rfl⟩
  obtain ⟨r, hrr⟩ : ∃ r, n % 64 = r := ⟨_, rfl⟩
  rw [hq, hrr]
  have hqi : (n : Int) / 64 = (q : Int) := by omega
  have hri : (n : Int) % 64 = (r : Int) := by omega
  have hql : q < l.length := by omega
  have hr64 : r < 64 := by omega
  have hn9 : n ≤ 9223372036854775807 := by omega
  obtain ⟨b, o, rfl, -⟩ := hr q hql
  have hCl := Clone_any ⟨b, o, none⟩ c l w (by omega) hr
  have hxl := W64_getD hw q
  have hbl := bit_lt hr64
  have hwb := wrapbit hr64
  have hF := fun w => less1 (l.getD q 0) (2 ^ r) w hxl hbl
  have htm : (n : Int).tmod 64 = (r : Int) := by rw [Int.tmod_eq_emod_of_nonneg (by omega)]; exact hri
  have htd : (n : Int).tdiv 64 = (q : Int) := by rw [Int.tdiv_eq_ediv_of_nonneg (by omega)]; exact hqi
  have hw1 : IntKind.i64.wrap (q : Int) = (q : Int) := by rw [IntKind.wrap_i64]; omega
  have hrm : min r 64 = r := by omega
  have hr0 : ¬ (r : Int) < 0 := by omega
  have hp1 : (1 : Int) * 2 ^ r = 2 ^ r := by rw [Int.one_mul]
  clear hq hrr
  go_enter Tryd.func61, Tryd.ntmps61
  go_wp2_with (go_at_call 64; refine (hL _).mono ?_; rintro e w' ⟨rfl, rfl⟩)
  refine hCl.mono ?_
  rintro e w1 ⟨v, rfl, o1, k1⟩
  obtain ⟨g, cur, cap, rfl, hg, hrow, hcap, hcu⟩ := o1.cells (by omega)
  have hc0 := hrow.cell q
  rw [hcu q hql] at hc0
  have hfz := hrow.frozen q
  have Hset : Hid (∀ y : Nat, ∀ j, j < (l.set q y).length → (cur.setIfInBounds q (.int .u64 (y : Nat)))[j]? = some (.int .u64 ((l.set q y).getD j 0 : Nat))) := fun y => cells_set hcu hql y
  have Hlen : Hid (∀ y, (l.set q y).length = l.length) := fun y => List.length_set ..
  clear hcu o1 hCl hL
  obtain ⟨x, hx⟩ : ∃ x, l.getD q 0 = x := ⟨_, rfl⟩
  obtain ⟨bt, hbt⟩ : ∃ bt, 2 ^ r = bt := ⟨_, rfl⟩
  rw [hx] at hF hc0 hxl
  rw [hbt] at hF hbl hwb
  have Hx : Hid (l.getD q 0 = x ∧ 2 ^ r = bt) := ⟨hx, hbt⟩
  clear hx hbt
  go_wp2_with fail
  go_region_with (go_at_call 63; refine (hF _).mono ?_; rintro e w' ⟨rfl, rfl⟩)
  all_goals
    go_simp
    go_wp2_with fail
    go_ret2
    rw [Hx.out.1, Hx.out.2]
    refine ⟨some ⟨g, 0, none⟩, cap, by rw [Hlen.out]; rfl, by rw [Hlen.out]; exact hcap, Rd.of_rowC (hrow.set q _) (Hset.out _), ?_⟩
    first | exact (k1.setCell hg _).drew | exact k1.drew.setCell hg _
theorem Less_ok (a : Option Addr) (c n : Nat) (l : List Nat) (w : World) (hl : l.length ≤ 17592186043904) (hn : n < 64 * l.length) (hr : Rd w a l) (hw : W64 l) :
    Calls Tryd.prog 30 #[.slice a l.length c, .int .i64 (n : Nat)] w fun e w' => LstA w w' e 0 (l.set (n / 64) (l.getD (n / 64) 0 &&& (18446744073709551615 - 2 ^ (n % 64)))) := by
  have h := changed_Less a c n l w hl hn hr hw
  generalize l.set (n / 64) _ = L at h ⊢
  go_enter Tryd.func30, Tryd.ntmps30
  go_wp2_with fail
  refine h.mono ?_
  rintro e w1 ⟨a1, c1, rfl, h1, h2, h3⟩
  go_wp2_with fail
  go_ret2
  exact ⟨a1, c1, rfl, h1, h2, h3⟩
theorem Less_no (a : Option Addr) (c : Nat) (i : Int) (l : List Nat) (w : World) (hl : l.length ≤ 17592186043904) (hi : i ≤ 9223372036854775807) (hn : ¬ (0 ≤ i ∧ i < 64 * (l.length : Int))) :
    Calls Tryd.prog 30 #[.slice a l.length c, .int .i64 i] w fun e w' => e = .returned (.tuple #[.slice none 0 0, .int .i64 2]) ∧ w' = w := by
  have hL := fun w => lies_any a c l.length i w (by omega) hi
  rw [decide_eq_false hn] at hL
  have h : ∀ w, Calls Tryd.prog 61 #[.slice a l.length c, .int .i64 i, .func (.func 63) #[] #[]] w fun e w' => e = .returned (.tuple #[.slice none 0 0, .int .i64 2]) ∧ w' = w := by
    intro w
    go_enter Tryd.func61, Tryd.ntmps61
    go_wp2_with (go_at_call 64; refine (hL _).mono ?_; rintro e w' ⟨rfl, rfl⟩)
    go_ret2
    exact ⟨rfl, rfl⟩
  go_enter Tryd.func30, Tryd.ntmps30
  go_wp2_with fail
  refine (h w).mono ?_
  rintro e w1 ⟨rfl, rfl⟩
  go_wp2_with fail
  go_ret2
  exact ⟨rfl, rfl⟩
end Go.Proofs.YtgmnadlmejkkpaaDoor
