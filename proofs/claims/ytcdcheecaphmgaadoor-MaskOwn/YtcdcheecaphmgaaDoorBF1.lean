import Derived.Test.YtcdcheecaphmgaaDoorProg
import Derived.Test.YtcdcheecaphmgaaDoorBC2
import Derived.WalkKit
import Derived.WalkSpells
import Derived.WalkLawsBesides
import Derived.Laws.CopyOwn
import Derived.Deep.Draws
import Derived.Deep.QuietTactic
import Derived.BigQuiet
import Derived.Deep.RegionWith
import Derived.Deep.RegionHeld3
import Derived.Shelf.Strconv.Itoa0
import Derived.Shelf.Spec.TrailingZeros
import Derived.RangeFuncBox
import Derived.RangeFuncLeaves
import Derived.Shelf.Abstract
import Derived.OwnWalkIn
import Derived.TacticsInMore
import Derived.LoopNIn
import Derived.LoopIn
import Derived.RangeFuncCalls
import Derived.Laws.BytesArg
set_option linter.unusedVariables false
set_option linter.unusedSimpArgs false
namespace Go.Proofs.YtcdcheecaphmgaaDoor.Bi
open Go.RowKit
theorem pcn_succ (n x : Nat) : pcn (n + 1) x = pcn n x + (x.testBit n).toNat := by
  unfold pcn
  rw [List.range_succ, List.countP_append]
  cases h : x.testBit n <;> simp [h]
theorem pcn_mono {x a b : Nat} (h : a ≤ b) : pcn a x ≤ pcn b x := by
  induction b with
  | zero => have : a = 0 := by omega
            subst this; exact Nat.le_refl _
  | succ b ih =>
    by_cases e : a = b + 1
    · rw [e]; exact Nat.le_refl _
    · have := ih (by omega); rw [pcn_succ]; omega
/-- The word without its j lowest bits. -/
def clr (x : Nat) : Nat → Nat
  | 0 => x
  | j + 1 => clr x j &&& (clr x j - 1)
theorem pcn_low {x j : Nat} : ∀ n, (∀ i, i < n → x.testBit i = true → pcn i x < j) → pcn n x ≤ j
  | 0, _ => by simp [pcn]
  | n + 1, h => by
    have ih := pcn_low n (fun i hi => h i (by omega))
    rw [pcn_succ]
    cases e : x.testBit n
    · simpa using ih
    · have := h n (by omega) e; simp; omega
theorem clr_spec {x : Nat} (hx : x < 18446744073709551616) : ∀ j, j ≤ pcn 64 x → clr x j < 18446744073709551616 ∧ ∀ i, (clr x j).testBit i = (x.testBit i && decide (j ≤ pcn i x))
  | 0, _ => ⟨hx, fun i => by simp [clr]⟩
  | j + 1, h => by
    obtain ⟨h1, h2⟩ := clr_spec hx j (by omega)
    have hne : clr x j ≠ 0 := by
      intro e
      have := pcn_low (x := x) (j := j) 64 (by
        intro i _ hi
        have g := h2 i
        rw [e, hi, Bool.true_and] at g
        simp at g
        omega)
      omega
    obtain ⟨hc, hc1, hc2, hc3⟩ := ctz_spec h1 hne
    generalize Lib.ctz 64 (clr x j) = c at hc hc1 hc2 hc3
    have hxc : x.testBit c = true ∧ j ≤ pcn c x := by
      rw [h2] at hc1; simpa using hc1
    have hlow : pcn c x ≤ j := pcn_low c (by
      intro i hi hxi
      have g := hc2 i hi
      rw [h2, hxi, Bool.true_and] at g
      simpa using g)
    refine ⟨Nat.lt_of_le_of_lt Nat.and_le_left h1, ?_⟩
    intro i
    show (clr x j &&& (clr x j - 1)).testBit i = _
    rw [hc3, h2]
    cases hxi : x.testBit i
    · simp
    · rw [Bool.true_and, Bool.true_and, ← Bool.decide_and, decide_eq_decide]
      constructor
      · rintro ⟨g1, g2⟩
        have : ¬ i < c := by
          intro g3
          have g := hc2 i g3
          rw [h2, hxi, Bool.true_and] at g
          simp at g
          omega
        have g4 := pcn_mono (x := x) (show c + 1 ≤ i by omega)
        rw [pcn_succ, hxc.1] at g4
        simp at g4
        omega
      · intro g
        refine ⟨by omega, ?_⟩
        intro e; subst e; omega
/-- The bit that has k below it. -/
theorem sel_spec {x k : Nat} (hx : x < 18446744073709551616) (h : k < pcn 64 x) : clr x k ≠ 0 ∧ clr x k < 18446744073709551616 ∧ Lib.ctz 64 (clr x k) < 64 ∧ x.testBit (Lib.ctz 64 (clr x k)) = true ∧ pcn (Lib.ctz 64 (clr x k)) x = k := by
  obtain ⟨h1, h2⟩ := clr_spec hx k (by omega)
  have hne : clr x k ≠ 0 := by
    intro e
    have := pcn_low (x := x) (j := k) 64 (by
      intro i _ hi
      have g := h2 i
      rw [e, hi, Bool.true_and] at g
      simp at g
      omega)
    omega
  obtain ⟨hc, hc1, hc2, -⟩ := ctz_spec h1 hne
  generalize Lib.ctz 64 (clr x k) = c at hc hc1 hc2
  have hxc : x.testBit c = true ∧ k ≤ pcn c x := by
    rw [h2] at hc1; simpa using hc1
  have hlow : pcn c x ≤ k := pcn_low c (by
    intro i hi hxi
    have g := hc2 i hi
    rw [h2, hxi, Bool.true_and] at g
    simpa using g)
  exact ⟨hne, h1, hc, hxc.1, by omega⟩
set_option maxRecDepth 100000 in
theorem selected_any (x k : Nat) (w : World) (hx : x < 18446744073709551616) (h : k < pcn 64 x) (hT : Tab w) :
    Calls Tryd.prog 81 #[.int .u64 (x : Nat), .int .i64 (k : Nat)] w fun e w' => e = .returned (.int .i64 (Lib.ctz 64 (clr x k) : Nat)) ∧ w' = w := by
  have hk64 : k < 64 := by have := pcn_le 64 x; omega
  have HC : Hid (∀ j, j ≤ k → clr x j < 18446744073709551616 ∧ (j < k → clr x j ≠ 0)) := by
    show ∀ j, _
    intro j hj
    refine ⟨(clr_spec hx j (by omega)).1, fun h' => (sel_spec hx (by omega)).1⟩
  obtain ⟨hne, hlt, -⟩ := sel_spec hx h
  have hZ := tz_any (clr x k) hlt hne w hT
  go_enter Tryd.func81, Tryd.ntmps81
  go_wp2_with fail
  go_loop [0, 6] (fun a b => ∃ j : Nat, j ≤ k ∧ a = .int .u64 (clr x j : Nat) ∧ b = .int .i64 j) (fun _ b => k - (intOf b).toNat)
  case atStart => exact ⟨0, by omega, rfl, rfl⟩
  case round =>
    obtain ⟨j, hj, rfl, rfl⟩ := hrel
    by_cases hjk : j < k
    · have h1 := (HC.out j hj).1
      have h2 := (HC.out j hj).2 hjk
      have he : bits .and .u64 ((clr x j : Nat) : Int) (((clr x j : Nat) : Int) - 1) = ((clr x (j + 1) : Nat) : Int) := by
        rw [show ((clr x j : Nat) : Int) - 1 = ((clr x j - 1 : Nat) : Int) by omega, u64_and_nat _ _ h1 (by omega)]; rfl
      go_wp2_with fail
      go_round
      case rel => exact ⟨j + 1, by omega, by first | rfl | rw [he], by go_num⟩
      case measure => simp [intOf]; omega
    · obtain rfl : j = k := by omega
      go_wp2_with fail
      refine hZ.mono ?_
      rintro e w' ⟨rfl, rfl⟩
      go_wp2_with fail
      go_ret
      exact ⟨rfl, rfl⟩
end Go.Proofs.YtcdcheecaphmgaaDoor.Bi
set_option linter.unusedVariables false
set_option linter.unusedSimpArgs false
namespace Go.Proofs.YtcdcheecaphmgaaDoor.Bi
open Go.RowKit
/-- How many bits are in below m. -/
def cn (l : List Nat) (m : Nat) : Nat := (List.range m).countP (hs l)
theorem cn_succ (l : List Nat) (m : Nat) : cn l (m + 1) = cn l m + (hs l m).toNat := by
  unfold cn
  rw [List.range_succ, List.countP_append]
  cases h : hs l m <;> simp [h]
theorem hs_at (l : List Nat) (k i : Nat) (h : i < 64) : hs l (64 * k + i) = (l.getD k 0).testBit i := by
  unfold hs; rw [show (64 * k + i) / 64 = k by omega, show (64 * k + i) % 64 = i by omega]
theorem cn_word (l : List Nat) (k r : Nat) (h : r ≤ 64) : cn l (64 * k + r) = cn l (64 * k) + pcn r (l.getD k 0) := by
  unfold cn pcn
  rw [List.range_add, List.countP_append, List.countP_map]
  congr 1
  apply List.countP_congr
  intro i hi
  rw [List.mem_range] at hi
  simp only [Function.comp]
  rw [hs_at l k i (by omega)]
theorem cn_next (l : List Nat) (k : Nat) : cn l (64 * (k + 1)) = cn l (64 * k) + pcn 64 (l.getD k 0) := by
  rw [show 64 * (k + 1) = 64 * k + 64 by omega, cn_word l k 64 (by omega)]
theorem cn_le (l : List Nat) (m : Nat) : cn l m ≤ m := by
  have := List.countP_le_length (p := hs l) (l := List.range m)
  rw [List.length_range] at this
  exact this
theorem cn_past {l : List Nat} {m : Nat} (h : 64 * l.length ≤ m) : cn l m = cn l (64 * l.length) := by
  induction m with
  | zero => rw [show l.length = 0 by omega]
  | succ m ih =>
    by_cases e : 64 * l.length = m + 1
    · rw [e]
    · rw [cn_succ, ih (by omega), hs_out (by omega)]; rfl
set_option maxRecDepth 100000 in
theorem Count_any (a : Option Addr) (c : Nat) (l : List Nat) (w : World) (hl : l.length ≤ 17592186044416) (hr : Rd w a l) (hw : W64 l) :
    Calls Tryd.prog 65 #[.slice a l.length c] w fun e w' => e = .returned (.int .i64 (cn l (64 * l.length) : Nat)) ∧ w' = w := by
  go_enter Tryd.func65, Tryd.ntmps65
  go_wp2_with fail
  go_loop [3, 8] (fun n i => ∃ k : Nat, k ≤ l.length ∧ n = .int .i64 (cn l (64 * k) : Nat) ∧ i = .int .i64 k) (fun _ i => l.length - (intOf i).toNat)
  case atStart => exact ⟨0, by omega, rfl, rfl⟩
  case round =>
    obtain ⟨k, hk, rfl, rfl⟩ := hrel
    by_cases hkl : k < l.length
    · obtain ⟨b, o, rfl, hc⟩ := hr k hkl
      have hxl := W64_getD hw k
      have Hn : Hid (cn l (64 * (k + 1)) = cn l (64 * k) + pcn 64 (l.getD k 0)) := cn_next l k
      have hb1 := cn_le l (64 * k)
      have hb2 := pcn_le 64 (l.getD k 0)
      generalize l.getD k 0 = x at hc hxl Hn hb2
      generalize cn l (64 * k) = n at Hn hb1 ⊢
      go_wp2_with (go_at_call 66; refine (Ones_any _ _ hxl).mono ?_; rintro e w' ⟨rfl, rfl⟩)
      go_round
      case rel => exact ⟨k + 1, by omega, by rw [Hn.out]; go_num, by go_num⟩
      case measure => simp [intOf]; omega
    · obtain rfl : k = l.length := by omega
      go_wp2_with fail
      go_ret
      exact ⟨rfl, rfl⟩
end Go.Proofs.YtcdcheecaphmgaaDoor.Bi
set_option linter.unusedVariables false
set_option linter.unusedSimpArgs false
namespace Go.Proofs.YtcdcheecaphmgaaDoor.Bi
open Go.RowKit
/-- All bits that are in, rising. -/
def allB (l : List Nat) : List Nat := (List.range (64 * l.length)).filter (hs l)
theorem filter_get (P : Nat → Bool) (m p : Nat) (hp : p < m) (h : P p = true) : ((List.range m).filter P)[(List.range p).countP P]? = some p := by
  obtain ⟨d, rfl⟩ : ∃ d, m = p + (1 + d) := ⟨m - p - 1, by omega⟩
  rw [List.range_add, List.filter_append, List.countP_eq_length_filter, List.getElem?_append_right (Nat.le_refl _), Nat.sub_self, List.range_add, List.map_append, List.filter_append]
  simp [h]
theorem allB_length (l : List Nat) : (allB l).length = cn l (64 * l.length) := by
  unfold allB cn; rw [List.countP_eq_length_filter]
theorem allB_get {l : List Nat} {p : Nat} (hp : p < 64 * l.length) (h : hs l p = true) : (allB l)[cn l p]? = some p := filter_get (hs l) _ p hp h
/-- The k-th bit, or -1. -/
def selI (l : List Nat) (k : Nat) : Int := match (allB l)[k]? with | some p => (p : Int) | none => -1
theorem selI_some {l : List Nat} {p : Nat} (hp : p < 64 * l.length) (h : hs l p = true) : selI l (cn l p) = p := by unfold selI; rw [allB_get hp h]
theorem selI_none {l : List Nat} {k : Nat} (h : cn l (64 * l.length) ≤ k) : selI l k = -1 := by unfold selI; rw [List.getElem?_eq_none (by rw [allB_length]; exact h)]
set_option maxRecDepth 100000 in
theorem Select_ok (a : Option Addr) (c k0 : Nat) (l : List Nat) (w : World) (hl : l.length ≤ 17592186044416) (hk0 : k0 ≤ 9223372036854775807) (hr : Rd w a l) (hw : W64 l) (hT : Tab w) :
    Calls Tryd.prog 72 #[.slice a l.length c, .int .i64 (k0 : Nat)] w fun e w' => e = .returned (.int .i64 (selI l k0)) ∧ w' = w := by
  have h0 : ¬ (k0 : Int) < 0 := by omega
  go_enter Tryd.func72, Tryd.ntmps72
  go_wp2_with fail
  go_loop [1, 12] (fun r i => ∃ j k : Nat, j ≤ l.length ∧ r = .int .i64 (k : Nat) ∧ i = .int .i64 j ∧ Hid (k + cn l (64 * j) = k0)) (fun _ i => l.length - (intOf i).toNat)
  case atStart => exact ⟨0, k0, by omega, rfl, rfl, rfl⟩
  case round =>
    obtain ⟨j, k, hj, rfl, rfl, hkk⟩ := hrel
    have hkb : k ≤ 9223372036854775807 := by have := hkk.out; omega
    by_cases hjl : j < l.length
    · obtain ⟨b, o, rfl, hc⟩ := hr j hjl
      have hxl := W64_getD hw j
      have Hn : Hid (cn l (64 * (j + 1)) = cn l (64 * j) + pcn 64 (l.getD j 0)) := cn_next l j
      have Hs : Hid (∀ k, k < pcn 64 (l.getD j 0) → k + cn l (64 * j) = k0 → Lib.ctz 64 (clr (l.getD j 0) k) < 64 ∧ selI l k0 = ((j * 64 + Lib.ctz 64 (clr (l.getD j 0) k) : Nat) : Int)) := by
        show ∀ k, _
        intro k hk e
        obtain ⟨-, -, g3, g4, g5⟩ := sel_spec hxl hk
        generalize Lib.ctz 64 (clr (l.getD j 0) k) = p at g3 g4 g5
        refine ⟨g3, ?_⟩
        have e1 : cn l (64 * j + p) = k0 := by rw [cn_word l j p (by omega), g5]; omega
        rw [← e1, selI_some (by omega) (by rw [hs_at l j p g3]; exact g4), Nat.mul_comm]
      have hb2 := pcn_le 64 (l.getD j 0)
      generalize l.getD j 0 = x at hc hxl Hn Hs hb2
      obtain ⟨n, hn⟩ : ∃ n, pcn 64 x = n := ⟨_, rfl⟩
      have hO := Ones_any x w hxl
      by_cases hlt : k < pcn 64 x
      · have hS := selected_any x k w hxl hlt hT
        obtain ⟨g1, g2⟩ := Hs.out k hlt hkk.out
        have G2 : Hid (selI l k0 = ((j * 64 + Lib.ctz 64 (clr x k) : Nat) : Int)) := g2
        clear g2
        generalize Lib.ctz 64 (clr x k) = p at hS g1 G2
        rw [hn] at hO hlt hb2
        clear Hs Hn hn
        go_wp2_with first
          | (go_at_call 66; refine hO.mono ?_; rintro e w' ⟨rfl, rfl⟩)
          | (go_at_call 81; refine hS.mono ?_; rintro e w' ⟨rfl, rfl⟩)
        go_ret
        exact ⟨ret_int (by rw [G2.out]; omega), rfl⟩
      · rw [hn] at hO hlt hb2
        have Hn2 : Hid ((k - n) + cn l (64 * (j + 1)) = k0) := by
          have := Hn.out; have := hkk.out; show _ = _; rw [hn] at *; omega
        clear Hs Hn hn
        go_wp2_with (go_at_call 66; refine hO.mono ?_; rintro e w' ⟨rfl, rfl⟩)
        go_round
        case rel => exact ⟨j + 1, k - n, by omega, by first | rfl | go_num | (congr 1; omega), by go_num, Hn2⟩
        case measure => simp [intOf]; omega
    · obtain rfl : j = l.length := by omega
      have G2 : Hid (selI l k0 = -1) := selI_none (by have := hkk.out; omega)
      go_wp2_with fail
      go_ret
      exact ⟨ret_int G2.out.symm, rfl⟩
theorem Lowest_any (a : Option Addr) (c : Nat) (l : List Nat) (w : World) (hl : l.length ≤ 17592186044416) (hr : Rd w a l) (hw : W64 l) (hT : Tab w) :
    Calls Tryd.prog 50 #[.slice a l.length c] w fun e w' => e = .returned (.int .i64 (selI l 0)) ∧ w' = w := by
  have h := Select_ok a c 0 l w hl (by omega) hr hw hT
  go_enter Tryd.func50, Tryd.ntmps50
  go_wp2_with (go_at_call 72; refine h.mono ?_; rintro e w' ⟨rfl, rfl⟩)
  go_ret
  exact ⟨rfl, rfl⟩
end Go.Proofs.YtcdcheecaphmgaaDoor.Bi
set_option linter.unusedVariables false
set_option linter.unusedSimpArgs false
namespace Go.Proofs.YtcdcheecaphmgaaDoor.Bi
open Go.RowKit
theorem lies_any (a : Option Addr) (c len : Nat) (i : Int) (w : World) (_ : len ≤ 17592186044416) (hi : i ≤ 9223372036854775807) :
    Calls Tryd.prog 64 #[.slice a len c, .int .i64 i] w fun e w' => e = .returned (.bool (decide (0 ≤ i ∧ i < 64 * (len : Int)))) ∧ w' = w := by
  by_cases h0 : i < 0
  · have h0' : ¬ 0 ≤ i := by omega
    go_enter Tryd.func64, Tryd.ntmps64
    go_wp2_with fail
    go_ret
    refine ⟨ret_bool ?_, rfl⟩
    simp
    omega
  · obtain ⟨n, rfl⟩ := Int.eq_ofNat_of_zero_le (show 0 ≤ i by omega)
    clear h0
    go_enter Tryd.func64, Tryd.ntmps64
    go_wp2_with fail
    go_ret
    refine ⟨ret_bool ?_, rfl⟩
    rw [decide_eq_decide]; omega
/-- The bit i, of any whole number. -/
def hasI (l : List Nat) (i : Int) : Bool := decide (0 ≤ i) && hs l i.toNat
theorem and1 (x r : Nat) (hx : x < 18446744073709551616) : (bits .and .u64 ((x : Int) / 2 ^ r) 1 == 1) = x.testBit r := by
  rw [show (x : Int) / 2 ^ r = ((x / 2 ^ r : Nat) : Int) by push_cast; rfl]
  have h1 : x / 2 ^ r < 18446744073709551616 := Nat.lt_of_le_of_lt (Nat.div_le_self _ _) hx
  have := u64_and_nat (x / 2 ^ r) 1 h1 (by omega)
  rw [show ((1 : Nat) : Int) = 1 from rfl] at this
  rw [this, Nat.and_one_is_mod, Nat.testBit_eq_decide_div_mod_eq, Bool.eq_iff_iff, beq_iff_eq, decide_eq_true_eq]
  omega
set_option maxRecDepth 100000 in
theorem Has_any (a : Option Addr) (c : Nat) (l : List Nat) (i : Int) (w : World) (hl : l.length ≤ 17592186044416) (hi : i ≤ 9223372036854775807) (hr : Rd w a l) (hw : W64 l) :
    Calls Tryd.prog 30 #[.slice a l.length c, .int .i64 i] w fun e w' => e = .returned (.bool (hasI l i)) ∧ w' = w := by
  have hL := fun w => lies_any a c l.length i w hl hi
  by_cases h : 0 ≤ i ∧ i < 64 * (l.length : Int)
  · rw [decide_eq_true h] at hL
    obtain ⟨n, rfl⟩ := Int.eq_ofNat_of_zero_le h.1
    obtain ⟨q, hq⟩ : ∃ q, n / 64 = q := ⟨_, rfl⟩
    obtain ⟨r, hrr⟩ : ∃ r, n % 64 = r := ⟨_, rfl⟩
    have hqi : (n : Int) / 64 = (q : Int) := by omega
    have hri : (n : Int) % 64 = (r : Int) := by omega
    obtain ⟨b, o, rfl, hc⟩ := hr q (by omega)
    have hxl := W64_getD hw q
    have Hv : Hid (hasI l (n : Int) = (l.getD q 0).testBit r) := by
      show _ = _
      unfold hasI hs
      rw [Int.toNat_natCast, hq, hrr, decide_eq_true (by omega), Bool.true_and]
    generalize l.getD q 0 = x at hc hxl Hv
    have hql : q < l.length := by omega
    have hr64 : r < 64 := by omega
    have h1 := and1 x r hxl
    clear hq hrr h
    go_enter Tryd.func30, Tryd.ntmps30
    go_wp2_with (go_at_call 64; refine (hL _).mono ?_; rintro e w' ⟨rfl, rfl⟩)
    go_ret
    exact ⟨ret_bool (by first | exact (h1.trans Hv.out.symm) | exact Hv.out.symm), rfl⟩
  · rw [decide_eq_false h] at hL
    have Hv : Hid (hasI l i = false) := by
      show _ = _
      unfold hasI
      by_cases h0 : 0 ≤ i
      · rw [hs_out (by omega), Bool.and_false]
      · rw [decide_eq_false h0, Bool.false_and]
    clear h
    go_enter Tryd.func30, Tryd.ntmps30
    go_wp2_with (go_at_call 64; refine (hL _).mono ?_; rintro e w' ⟨rfl, rfl⟩)
    go_ret
    exact ⟨ret_bool Hv.out.symm, rfl⟩
end Go.Proofs.YtcdcheecaphmgaaDoor.Bi
set_option linter.unusedVariables false
set_option linter.unusedSimpArgs false
namespace Go.Proofs.YtcdcheecaphmgaaDoor.Bi
open Go.RowKit
/-- Bytes as cells. -/
def V8 (l : List Nat) : List Value := l.map (fun x => Value.int .u8 (x : Nat))
def Row8 (w : World) (g : Nat) (l : List Nat) : Prop := w.heap[g]? = some (.cells (V8 l).toArray 5 (0, 0))
theorem Row8.lt {w : World} {g : Nat} {l : List Nat} (h : Row8 w g l) : g < w.heap.size := (Array.getElem?_eq_some_iff.1 h).1
theorem V8_get (l : List Nat) (j : Nat) (h : j < l.length) : (V8 l)[j]? = some (.int .u8 (l.getD j 0 : Nat)) := by simp [V8, List.getD, h]
theorem Row8.cell {w : World} {g : Nat} {l : List Nat} (h : Row8 w g l) (j : Nat) (hj : j < l.length) : w.cell? ⟨g, j, none⟩ = some (.int .u8 (l.getD j 0 : Nat)) := by
  rw [cell_of_row w g j _ 5 (0, 0) h]; simpa using V8_get l j hj
theorem Row8.frozen {w : World} {g : Nat} {l : List Nat} (h : Row8 w g l) (j : Nat) : w.frozen? ⟨g, j, none⟩ = false := frozen_of_row w g j _ 5 h
theorem Row8.set {w : World} {g : Nat} {l : List Nat} (h : Row8 w g l) (j x : Nat) : Row8 (w.setCell ⟨g, j, none⟩ (.int .u8 (x : Nat))) g (l.set j x) := by
  have := heap_setCell_same w g j _ 5 (.int .u8 (x : Nat)) h
  unfold Row8
  rw [this]
  simp [V8, List.map_set]
theorem Row8.keep {w w' : World} {g : Nat} {l : List Nat} (h : Row8 w g l) (k : Keep w w') : Row8 w' g l := by
  unfold Row8; rw [k.block g h.lt]; exact h
end Go.Proofs.YtcdcheecaphmgaaDoor.Bi
set_option linter.unusedVariables false
set_option linter.unusedSimpArgs false
namespace Go.Proofs.YtcdcheecaphmgaaDoor.Bi
open Go.RowKit
theorem and_any (x y : Nat) (w : World) (hx : x < 18446744073709551616) (hy : y < 18446744073709551616) :
    Calls Tryd.prog 63 #[.int .u64 (x : Nat), .int .u64 (y : Nat)] w fun e w' => e = .returned (.int .u64 ((x &&& y : Nat) : Int)) ∧ w' = w := by
  have h := u64_and_nat x y hx hy
  go_enter Tryd.func63, Tryd.ntmps63
  go_wp2
  go_ret
  exact ⟨rfl, rfl⟩
/-- Word by word. -/
def zw (f : Nat → Nat → Nat) (l m : List Nat) : List Nat := List.zipWith f l m
theorem zw_length (f : Nat → Nat → Nat) {l m : List Nat} (h : l.length = m.length) : (zw f l m).length = l.length := by unfold zw; rw [List.length_zipWith, h, Nat.min_self]
theorem zw_get (f : Nat → Nat → Nat) {l m : List Nat} (h : l.length = m.length) {k : Nat} (hk : k < l.length) : (zw f l m).getD k 0 = f (l.getD k 0) (m.getD k 0) := by
  unfold zw
  simp [List.getD, List.getElem?_zipWith, hk, show k < m.length by omega]
end Go.Proofs.YtcdcheecaphmgaaDoor.Bi
set_option linter.unusedVariables false
set_option linter.unusedSimpArgs false
namespace Go.Proofs.YtcdcheecaphmgaaDoor.Bi
open Go.RowKit
/-- A block of cells of that kind. -/
def RowC (w : World) (g : Nat) (cur : Array Value) : Prop := w.heap[g]? = some (.cells cur 53 (0, 0))
theorem RowC.lt {w : World} {g : Nat} {cur : Array Value} (h : RowC w g cur) : g < w.heap.size := (Array.getElem?_eq_some_iff.1 h).1
theorem RowC.cell {w : World} {g : Nat} {cur : Array Value} (h : RowC w g cur) (j : Nat) : w.cell? ⟨g, j, none⟩ = cur[j]? := cell_of_row w g j cur 53 (0, 0) h
theorem RowC.frozen {w : World} {g : Nat} {cur : Array Value} (h : RowC w g cur) (j : Nat) : w.frozen? ⟨g, j, none⟩ = false := frozen_of_row w g j cur 53 h
theorem RowC.set {w : World} {g : Nat} {cur : Array Value} (h : RowC w g cur) (j : Nat) (v : Value) : RowC (w.setCell ⟨g, j, none⟩ v) g (cur.setIfInBounds j v) := by
  have := heap_setCell_same w g j cur 53 v h
  exact this
theorem RowC.keep {w w' : World} {g : Nat} {cur : Array Value} (h : RowC w g cur) (k : Keep w w') : RowC w' g cur := by
  unfold RowC; rw [k.block g h.lt]; exact h
set_option maxRecDepth 100000 in
set_option maxHeartbeats 400000 in
/-- Into the first one itself. -/
theorem join_self (g c ca cb : Nat) (b : Option Addr) (cur : Array Value) (l m : List Nat) (w : World) (hrow : RowC w g cur) (hcu : ∀ j, j < l.length → cur[j]? = some (.int .u64 (l.getD j 0 : Nat))) (hlm : l.length = m.length) (hl : l.length ≤ 17592186044416) (hb : Rd w b m) (hwl : W64 l) (hwm : W64 m) (ob : Off g b m) :
    Calls Tryd.prog 62 #[.slice (some ⟨g, 0, none⟩) l.length c, .slice (some ⟨g, 0, none⟩) l.length ca, .slice b l.length cb, .func (.func 63) #[] #[]] w fun e w' => e = .returned (.tuple #[]) ∧ Rd w' (some ⟨g, 0, none⟩) (zw (fun x y => x &&& y) l m) ∧ Mut g w w' := by
  have Hlm : Hid (l.length = m.length) := hlm
  have Hcu : Hid (∀ j, j < l.length → cur[j]? = some (.int .u64 (l.getD j 0 : Nat))) := hcu
  clear hlm hcu
  go_enter Tryd.func62, Tryd.ntmps62
  go_wp2_with fail
  go_loopw [11] (fun i wr => ∃ (k : Nat) (rk : Array Value), k ≤ l.length ∧ i = .int .i64 k ∧ RowC wr g rk ∧ Hid (∀ j, j < k → rk[j]? = some (.int .u64 ((zw (fun x y => x &&& y) l m).getD j 0 : Nat))) ∧ Hid (∀ j, k ≤ j → rk[j]? = cur[j]?) ∧ Mut g w wr) (fun i _ => l.length - (intOf i).toNat)
  case atStart => exact ⟨0, cur, by omega, rfl, hrow, fun j hj => absurd hj (by omega), fun _ _ => rfl, Mut.refl _ _⟩
  case round =>
    obtain ⟨k, rk, hkk, rfl, hrk, htk, hrest, hm⟩ := hrel
    by_cases hkl : k < l.length
    · obtain ⟨b2, o2, e2, c2⟩ := (hb.mut hm ob) k (by have := Hlm.out; omega)
      subst e2
      have hx := W64_getD hwl k
      have hy := W64_getD hwm k
      have c1 := hrk.cell k
      rw [hrest.out k (Nat.le_refl _), Hcu.out k hkl] at c1
      have hks : k < rk.size := by
        have := (hrest.out k (Nat.le_refl _)).trans (Hcu.out k hkl)
        exact (Array.getElem?_eq_some_iff.1 this).1
      have Ht : Hid ((zw (fun x y => x &&& y) l m).getD k 0 = (fun x y => x &&& y) (l.getD k 0) (m.getD k 0)) := zw_get _ Hlm.out hkl
      have hfz := hrk.frozen k
      generalize l.getD k 0 = x at c1 hx Ht
      generalize m.getD k 0 = y at c2 hy Ht
      have Hin : Hid (∀ j, j < k + 1 → (rk.setIfInBounds k (.int .u64 ((x &&& y : Nat) : Int)))[j]? = some (.int .u64 ((zw (fun x y => x &&& y) l m).getD j 0 : Nat))) := by
        show ∀ j, _
        intro j hj
        rw [Array.getElem?_setIfInBounds]
        by_cases e : k = j
        · subst e; rw [if_pos rfl, if_pos hks, Ht.out]
        · rw [if_neg e]; exact htk.out j (by omega)
      have Hout : Hid (∀ j, k + 1 ≤ j → (rk.setIfInBounds k (.int .u64 ((x &&& y : Nat) : Int)))[j]? = cur[j]?) := by
        show ∀ j, _
        intro j hj
        rw [Array.getElem?_setIfInBounds, if_neg (by omega)]
        exact hrest.out j (by omega)
      have hC := fun w => and_any x y w hx hy
      clear hks
      go_wp2_with fail
      go_region_with (go_at_call 63; refine (hC _).mono ?_; rintro e w' ⟨rfl, rfl⟩)
      all_goals go_simp
      all_goals go_wp2_with fail
      all_goals
        go_roundw
        case rel => exact ⟨k + 1, _, by omega, by go_num, hrk.set k _, Hin, Hout, (hm.setCell k _).drew⟩
        case measure => simp [intOf]; omega
    · obtain rfl : k = l.length := by omega
      go_wp2_with fail
      go_end0
      refine ⟨rfl, ?_, hm⟩
      intro j hj
      rw [zw_length _ Hlm.out] at hj
      refine ⟨g, 0, rfl, ?_⟩
      rw [Nat.zero_add, hrk.cell j]
      exact htk.out j hj
end Go.Proofs.YtcdcheecaphmgaaDoor.Bi
set_option linter.unusedVariables false
set_option linter.unusedSimpArgs false
namespace Go.Proofs.YtcdcheecaphmgaaDoor.Bi
open Go.RowKit
/-- A list and an error's number. -/
def LstA (w w' : World) (e : Ending) (E : Int) (L : List Nat) : Prop := ∃ a c, e = .returned (.tuple #[.slice a L.length c, .int .i64 E]) ∧ L.length ≤ c ∧ Rd w' a L ∧ Keep w w'
def ansE (l m : List Nat) : Int := if l.length = m.length then 0 else 6
end Go.Proofs.YtcdcheecaphmgaaDoor.Bi
set_option linter.unusedVariables false
set_option linter.unusedSimpArgs false
namespace Go.Proofs.YtcdcheecaphmgaaDoor.Bi
open Go.RowKit
/-- A slice that owns its limbs (made by append). -/
def Own (B : Nat) (w : World) (v : Value) (l : List Nat) : Prop := w.ownsRow B 53 1 v l.length (U l)
theorem Own.keep {B : Nat} {w w' : World} {v : Value} {l : List Nat} (h : Own B w v l) (k : Keep w w') : Own B w' v l := by
  refine ⟨h.1, ?_⟩
  rcases h.2 with h2 | ⟨g, cap, cur, hv, hg, hh, r⟩
  · exact .inl h2
  · exact .inr ⟨g, cap, cur, hv, hg, by rw [k.block g (Array.getElem?_eq_some_iff.1 hh).1]; exact hh, r⟩
theorem Own.mono {B B' : Nat} {w : World} {v : Value} {l : List Nat} (h : Own B w v l) (hB : B' ≤ B) : Own B' w v l := by
  refine ⟨h.1, ?_⟩
  rcases h.2 with h2 | ⟨g, cap, cur, hv, hg, r⟩
  · exact .inl h2
  · exact .inr ⟨g, cap, cur, hv, by omega, r⟩
theorem Own.shape {B : Nat} {w : World} {v : Value} {l : List Nat} (h : Own B w v l) : ∃ a c, v = .slice a l.length c ∧ l.length ≤ c ∧ Rd w a l := by
  rcases h.2 with ⟨h1, h2⟩ | ⟨g, cap, cur, hv, hg, hh, h1, h2, h3, h4⟩
  · exact ⟨none, 0, by rw [h1, h2], by omega, fun j hj => by omega⟩
  · refine ⟨some ⟨g, 0, none⟩, cap, hv, h1, ?_⟩
    intro j hj
    refine ⟨g, 0, rfl, ?_⟩
    rw [Nat.zero_add, cell_of_row w g j cur 53 (0, 0) hh, ← U_get l j hj, ← h4]
    simp [hj]
theorem Own.nil (B : Nat) (w : World) : Own B w (.slice none 0 0) [] := ⟨rfl, .inl ⟨rfl, rfl⟩⟩
/-- append(nil, l...). -/
theorem wpList_copyn {w : World} {ops : Array Oper} {rest : List Oper} {o : Oper} {a : Act} {Q : Exit → Act → World → Prop} (hgd : o.guard = none) (s x : Operand)
    (ho : o.op = .call { callee := .builtin .append, args := #[s, x], argTypes := #[40, 40] }) (l : List Nat) (ad : Addr) (c : Nat) (hs : a.eval s = .slice none 0 0)
    (hx : a.eval x = .slice (some ad) l.length c) (hr : Rd w (some ad) l) (hlen : l.length ≤ 17592186044416)
    (hK : ∀ v w1, Own w.heap.size w1 v l → Keep w w1 → wpList Tryd.prog ops Q rest (a.put o.dst v) w1) :
    wpList Tryd.prog ops Q (o :: rest) a w := by
  obtain ⟨i0, hi, hz0, hz1, hz2⟩ := info_parts i59
  refine wpList_append_own _ hgd s x 40 ho w.heap.size 53 i0 (.int .u64 0) 1 8 Tryd.underlying40 hi hz0 hz1 hz2 rfl (by decide) _ _ _ hs (Own.nil w.heap.size w) ad l.length c (U l) hx (by simp [U]) ?_ (U_one l) ?_ ?_ ?_ ?_
  · intro j u hj
    have hjl : j < l.length := by have := (List.getElem?_eq_some_iff.1 hj).1; simpa [U_length] using this
    rw [U_get l j hjl] at hj
    obtain ⟨b', o', e, hc⟩ := hr j hjl
    simp only [Option.some.injEq] at e
    subst e
    rw [Addr.add_lit, hc, hj]
  · simp only [maxLen, List.length_nil]; omega
  · simp only [List.length_nil]; omega
  · exact Nat.le_refl _
  · intro v' w1 h1 h2 _
    refine hK v' w1 ?_ ?_
    · unfold Own; simpa [U] using h1
    · refine Below.grown (Keep.refl w) h2 (Nat.le_refl _) ?_
      intro k hk'
      cases hk'
end Go.Proofs.YtcdcheecaphmgaaDoor.Bi
