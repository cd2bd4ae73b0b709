import Derived.Test.YtgmnadlmejkkpaaDoorI5
import Derived.Test.YtgmnadlmejkkpaaDoorL7
set_option linter.unusedVariables false
set_option linter.unusedSimpArgs false
namespace Go.Proofs.YtgmnadlmejkkpaaDoor
open Go.RowKit
/-- A list of the call's own, and an error's number. -/
def LstO (w w' : World) (e : Ending) (E : Int) (L : List Nat) : Prop := ∃ v, e = .returned (.tuple #[v, .int .i64 E]) ∧ Own w.heap.size w' v L ∧ Keep w w'
theorem Own.drew {B : Nat} {w : World} {v : Value} {l : List Nat} (h : Own B w v l) : Own B w.drew v l := h
theorem Own.set {B : Nat} {w : World} {l : List Nat} {g n cap j : Nat} (h : Own B w (.slice (some ⟨g, 0, none⟩) n cap) l) (hj : j < l.length) (y : Nat) :
    Own B (w.setCell ⟨g, j, none⟩ (.int .u64 (y : Nat))) (.slice (some ⟨g, 0, none⟩) n cap) (l.set j y) := by
  unfold Own at *
  rw [List.length_set]
  refine ⟨by simp [U], ?_⟩
  rcases h.2 with ⟨h1, h2⟩ | ⟨g', cap', cur, hv, hg, hh, h1, h2, h3, h4⟩
  · cases h1
  · simp only [Value.slice.injEq, Option.some.injEq, Addr.mk.injEq, and_true, true_and] at hv
    obtain ⟨rfl, rfl, rfl⟩ := hv
    refine .inr ⟨g, cap, cur.setIfInBounds j (.int .u64 (y : Nat)), rfl, hg, heap_setCell_same w g j cur 59 _ hh, h1, h2, by simpa using h3, ?_⟩
    rw [Nat.mul_one] at h4 ⊢
    rw [Array.toList_setIfInBounds, List.take_set, h4]
    simp [U, List.map_set]
set_option maxRecDepth 100000 in
set_option maxHeartbeats 1000000 in
theorem changed_WithO (a : Option Addr) (c n : Nat) (l : List Nat) (w : World) (hl : l.length ≤ 17592186043904) (hn : n < 64 * l.length) (hr : Rd w a l) (hw : W64 l) :
    Calls Tryd.prog 61 #[.slice a l.length c, .int .i64 (n : Nat), .func (.func 62) #[] #[]] w fun e w' => LstO w w' e 0 (l.set (n / 64) (l.getD (n / 64) 0 ||| 2 ^ (n % 64))) := by
  have hL := fun w => lies_any a c l.length (n : Int) w (by omega) (by omega)
  rw [decide_eq_true (p := 0 ≤ (n : Int) ∧ (n : Int) < 64 * (l.length : Int)) (by omega)] at hL
  obtain ⟨q, hq⟩ : ∃ q, n / 64 = q := ⟨_, rfl⟩
  obtain ⟨r, hrr⟩ : ∃ r, n % 64 = r := ⟨_, rfl⟩
  rw [hq, hrr]
  have hqi : (n : Int) / 64 = (q : Int) := by omega
  have hri : (n : Int) % 64 = (r : Int) := by omega
  have hql : q < l.length := by omega
  have hr64 : r < 64 := by omega
  have hn9 : n ≤ 9223372036854775807 := by omega
  obtain ⟨b, o, rfl, -⟩ := hr q hql
  have hCl := Clone_any ⟨b, o, none⟩ c l w (by omega) hr
  have hxl := W64_getD hw q
  have hbl := bit_lt hr64
  have hwb := wrapbit hr64
  have hF := fun w => with1 (l.getD q 0) (2 ^ r) w hxl hbl
  have htm : (n : Int).tmod 64 = (r : Int) := by rw [Int.tmod_eq_emod_of_nonneg (by omega)]; exact hri
  have htd : (n : Int).tdiv 64 = (q : Int) := by rw [Int.tdiv_eq_ediv_of_nonneg (by omega)]; exact hqi
  have hw1 : IntKind.i64.wrap (q : Int) = (q : Int) := by rw [IntKind.wrap_i64]; omega
  have hrm : min r 64 = r := by omega
  have hr0 : ¬ (r : Int) < 0 := by omega
  have hp1 : (1 : Int) * 2 ^ r = 2 ^ r := by rw [Int.one_mul]
  clear hq hrr
  go_enter Tryd.func61, Tryd.ntmps61
  go_wp2_with (go_at_call 64; refine (hL _).mono ?_; rintro e w' ⟨rfl, rfl⟩)
  refine hCl.mono ?_
  rintro e w1 ⟨v, rfl, o1, k1⟩
  obtain ⟨g, cur, cap, rfl, hg, hrow, hcap, hcu⟩ := o1.cells (by omega)
  have HO : Hid (Own _ w1 (.slice (some ⟨g, 0, none⟩) l.length cap) l) := o1
  have hc0 := hrow.cell q
  rw [hcu q hql] at hc0
  have hfz := hrow.frozen q
  have Hset : Hid (∀ y : Nat, ∀ j, j < (l.set q y).length → (cur.setIfInBounds q (.int .u64 (y : Nat)))[j]? = some (.int .u64 ((l.set q y).getD j 0 : Nat))) := fun y => cells_set hcu hql y
  have Hlen : Hid (∀ y, (l.set q y).length = l.length) := fun y => List.length_set ..
  clear hcu o1 hCl hL
  obtain ⟨x, hx⟩ : ∃ x, l.getD q 0 = x := ⟨_, rfl⟩
  obtain ⟨bt, hbt⟩ : ∃ bt, 2 ^ r = bt := ⟨_, rfl⟩
  rw [hx] at hF hc0 hxl
  rw [hbt] at hF hbl hwb
  have Hx : Hid (l.getD q 0 = x ∧ 2 ^ r = bt) := ⟨hx, hbt⟩
  clear hx hbt
  go_wp2_with fail
  go_region_with (go_at_call 62; refine (hF _).mono ?_; rintro e w' ⟨rfl, rfl⟩)
  all_goals
    go_simp
    go_wp2_with fail
    go_ret2
    rw [Hx.out.1, Hx.out.2]
    refine ⟨.slice (some ⟨g, 0, none⟩) l.length cap, rfl, ?_, ?_⟩
    · first | exact (HO.out.set hql _).drew | exact HO.out.drew.set hql _
    · first | exact (k1.setCell hg _).drew | exact k1.drew.setCell hg _
theorem With_okO (a : Option Addr) (c n : Nat) (l : List Nat) (w : World) (hl : l.length ≤ 17592186043904) (hn : n < 64 * l.length) (hr : Rd w a l) (hw : W64 l) :
    Calls Tryd.prog 28 #[.slice a l.length c, .int .i64 (n : Nat)] w fun e w' => LstO w w' e 0 (l.set (n / 64) (l.getD (n / 64) 0 ||| 2 ^ (n % 64))) := by
  have h := changed_WithO a c n l w hl hn hr hw
  generalize l.set (n / 64) _ = L at h ⊢
  go_enter Tryd.func28, Tryd.ntmps28
  go_wp2_with fail
  refine h.mono ?_
  rintro e w1 ⟨v1, rfl, h1, h2⟩
  obtain ⟨a1, c1, rfl, hc1, r1⟩ := h1.shape
  go_wp2_with fail
  go_ret2
  exact ⟨_, rfl, h1, h2⟩
set_option maxRecDepth 100000 in
set_option maxHeartbeats 1000000 in
theorem changed_LessO (a : Option Addr) (c n : Nat) (l : List Nat) (w : World) (hl : l.length ≤ 17592186043904) (hn : n < 64 * l.length) (hr : Rd w a l) (hw : W64 l) :
    Calls Tryd.prog 61 #[.slice a l.length c, .int .i64 (n : Nat), .func (.func 63) #[] #[]] w fun e w' => LstO w w' e 0 (l.set (n / 64) (l.getD (n / 64) 0 &&& (18446744073709551615 - 2 ^ (n % 64)))) := by
  have hL := fun w => lies_any a c l.length (n : Int) w (by omega) (by omega)
  rw [decide_eq_true (p := 0 ≤ (n : Int) ∧ (n : Int) < 64 * (l.length : Int)) (by omega)] at hL
  obtain ⟨q, hq⟩ : ∃ q, n / 64 = q := ⟨_, rfl⟩
  obtain ⟨r, hrr⟩ : ∃ r, n % 64 = r := ⟨_, rfl⟩
  rw [hq, hrr]
  have hqi : (n : Int) / 64 = (q : Int) := by omega
  have hri : (n : Int) % 64 = (r : Int) := by omega
  have hql : q < l.length := by omega
  have hr64 : r < 64 := by omega
  have hn9 : n ≤ 9223372036854775807 := by omega
  obtain ⟨b, o, rfl, -⟩ := hr q hql
  have hCl := Clone_any ⟨b, o, none⟩ c l w (by omega) hr
  have hxl := W64_getD hw q
  have hbl := bit_lt hr64
  have hwb := wrapbit hr64
  have hF := fun w => less1 (l.getD q 0) (2 ^ r) w hxl hbl
  have htm : (n : Int).tmod 64 = (r : Int) := by rw [Int.tmod_eq_emod_of_nonneg (by omega)]; exact hri
  have htd : (n : Int).tdiv 64 = (q : Int) := by rw [Int.tdiv_eq_ediv_of_nonneg (by omega)]; exact hqi
  have hw1 : IntKind.i64.wrap (q : Int) = (q : Int) := by rw [IntKind.wrap_i64]; omega
  have hrm : min r 64 = r := by omega
  have hr0 : ¬ (r : Int) < 0 := by omega
  have hp1 : (1 : Int) * 2 ^ r = 2 ^ r := by rw [Int.one_mul]
  clear hq hrr
  go_enter Tryd.func61, Tryd.ntmps61
  go_wp2_with (go_at_call 64; refine (hL _).mono ?_; rintro e w' ⟨rfl, rfl⟩)
  refine hCl.mono ?_
  rintro e w1 ⟨v, rfl, o1, k1⟩
  obtain ⟨g, cur, cap, rfl, hg, hrow, hcap, hcu⟩ := o1.cells (by omega)
  have HO : Hid (Own _ w1 (.slice (some ⟨g, 0, none⟩) l.length cap) l) := o1
  have hc0 := hrow.cell q
  rw [hcu q hql] at hc0
  have hfz := hrow.frozen q
  have Hset : Hid (∀ y : Nat, ∀ j, j < (l.set q y).length → (cur.setIfInBounds q (.int .u64 (y : Nat)))[j]? = some (.int .u64 ((l.set q y).getD j 0 : Nat))) := fun y => cells_set hcu hql y
  have Hlen : Hid (∀ y, (l.set q y).length = l.length) := fun y => List.length_set ..
  clear hcu o1 hCl hL
  obtain ⟨x, hx⟩ : ∃ x, l.getD q 0 = x := ⟨_, rfl⟩
  obtain ⟨bt, hbt⟩ : ∃ bt, 2 ^ r = bt := ⟨_, rfl⟩
  rw [hx] at hF hc0 hxl
  rw [hbt] at hF hbl hwb
  have Hx : Hid (l.getD q 0 = x ∧ 2 ^ r = bt) := ⟨hx, hbt⟩
  clear hx hbt
  go_wp2_with fail
  go_region_with (go_at_call 63; refine (hF _).mono ?_; rintro e w' ⟨rfl, rfl⟩)
  all_goals
    go_simp
    go_wp2_with fail
    go_ret2
    rw [Hx.out.1, Hx.out.2]
    refine ⟨.slice (some ⟨g, 0, none⟩) l.length cap, rfl, ?_, ?_⟩
    · first | exact (HO.out.set hql _).drew | exact HO.out.drew.set hql _
    · first | exact (k1.setCell hg _).drew | exact k1.drew.setCell hg _
theorem Less_okO (a : Option Addr) (c n : Nat) (l : List Nat) (w : World) (hl : l.length ≤ 17592186043904) (hn : n < 64 * l.length) (hr : Rd w a l) (hw : W64 l) :
    Calls Tryd.prog 30 #[.slice a l.length c, .int .i64 (n : Nat)] w fun e w' => LstO w w' e 0 (l.set (n / 64) (l.getD (n / 64) 0 &&& (18446744073709551615 - 2 ^ (n % 64)))) := by
  have h := changed_LessO a c n l w hl hn hr hw
  generalize l.set (n / 64) _ = L at h ⊢
  go_enter Tryd.func30, Tryd.ntmps30
  go_wp2_with fail
  refine h.mono ?_
  rintro e w1 ⟨v1, rfl, h1, h2⟩
  obtain ⟨a1, c1, rfl, hc1, r1⟩ := h1.shape
  go_wp2_with fail
  go_ret2
  exact ⟨_, rfl, h1, h2⟩
end Go.Proofs.YtgmnadlmejkkpaaDoor
set_option linter.unusedVariables false
set_option linter.unusedSimpArgs false
namespace Go.Proofs.YtgmnadlmejkkpaaDoor
open Go.RowKit
theorem Row.own {B : Nat} {w : World} {g : Nat} {l : List Nat} (h : Row w g l) (hb : B ≤ g) (hl : l.length ≤ 17592186044416) : Own B w (.slice (some ⟨g, 0, none⟩) l.length l.length) l :=
  ⟨by simp [U], .inr ⟨g, l.length, _, rfl, hb, h, Nat.le_refl _, by simp only [maxLen]; omega, by simp [U], by rw [Nat.mul_one]; exact List.take_of_length_le (by simp [U])⟩⟩
set_option maxRecDepth 100000 in
theorem joined_andO (ca cb : Nat) (a b : Option Addr) (l : List Nat) (w : World) (hl : l.length ≤ 17592186044416) (ha : Rd w a l) (hb : Rd w b l) (hwl : W64 l) :
    Calls Tryd.prog 54 #[.slice a l.length ca, .slice b l.length cb, .func (.func 55) #[] #[]] w fun e w' => LstO w w' e 0 (zw (fun x y => x &&& y) l l) := by
  have hJ := fun w1 (hrow : Row w1 w.heap.size (List.replicate l.length 0)) (k : Keep w w1) => join_and w.heap.size l.length ca cb a b (List.replicate l.length 0) l l w1 hrow (by simp) rfl hl (ha.keep k) (hb.keep k) hwl hwl (Off.of_lt ha (Nat.le_refl _)) (Off.of_lt hb (Nat.le_refl _))
  have Hz : Hid ((zw (fun x y => x &&& y) l l).length = l.length) := zw_length _ rfl
  go_enter Tryd.func54, Tryd.ntmps54
  go_wp2_with (at_make; refine wpList_make64 _ rfl _ _ rfl _ _ _ _ l.length rfl rfl rfl rfl (by omega) ?_; intro w1 hr1 k1 s1)
  refine (hJ w1 hr1 k1).mono ?_
  rintro e w2 ⟨rfl, hr2, m2⟩
  go_wp2_with fail
  go_ret2
  have ho := hr2.own (Nat.le_refl w.heap.size) (by rw [Hz.out]; exact hl)
  rw [Hz.out] at ho
  exact ⟨_, rfl, ho, k1.mut m2 (Nat.le_refl _)⟩
theorem And_O (ca cb : Nat) (a b : Option Addr) (l : List Nat) (w : World) (hl : l.length ≤ 17592186044416) (ha : Rd w a l) (hb : Rd w b l) (hwl : W64 l) :
    Calls Tryd.prog 22 #[.slice a l.length ca, .slice b l.length cb] w fun e w' => LstO w w' e 0 (zw (fun x y => x &&& y) l l) := by
  have h := joined_andO ca cb a b l w hl ha hb hwl
  generalize zw (fun x y => x &&& y) l l = L at h ⊢
  go_enter Tryd.func22, Tryd.ntmps22
  go_wp2_with fail
  refine h.mono ?_
  rintro e w1 ⟨v1, rfl, h1, h2⟩
  obtain ⟨a1, c1, rfl, hc1, r1⟩ := h1.shape
  go_wp2_with fail
  go_ret2
  exact ⟨_, rfl, h1, h2⟩
set_option maxRecDepth 100000 in
theorem joined_orO (ca cb : Nat) (a b : Option Addr) (l : List Nat) (w : World) (hl : l.length ≤ 17592186044416) (ha : Rd w a l) (hb : Rd w b l) (hwl : W64 l) :
    Calls Tryd.prog 54 #[.slice a l.length ca, .slice b l.length cb, .func (.func 56) #[] #[]] w fun e w' => LstO w w' e 0 (zw (fun x y => x ||| y) l l) := by
  have hJ := fun w1 (hrow : Row w1 w.heap.size (List.replicate l.length 0)) (k : Keep w w1) => join_or w.heap.size l.length ca cb a b (List.replicate l.length 0) l l w1 hrow (by simp) rfl hl (ha.keep k) (hb.keep k) hwl hwl (Off.of_lt ha (Nat.le_refl _)) (Off.of_lt hb (Nat.le_refl _))
  have Hz : Hid ((zw (fun x y => x ||| y) l l).length = l.length) := zw_length _ rfl
  go_enter Tryd.func54, Tryd.ntmps54
  go_wp2_with (at_make; refine wpList_make64 _ rfl _ _ rfl _ _ _ _ l.length rfl rfl rfl rfl (by omega) ?_; intro w1 hr1 k1 s1)
  refine (hJ w1 hr1 k1).mono ?_
  rintro e w2 ⟨rfl, hr2, m2⟩
  go_wp2_with fail
  go_ret2
  have ho := hr2.own (Nat.le_refl w.heap.size) (by rw [Hz.out]; exact hl)
  rw [Hz.out] at ho
  exact ⟨_, rfl, ho, k1.mut m2 (Nat.le_refl _)⟩
theorem Or_O (ca cb : Nat) (a b : Option Addr) (l : List Nat) (w : World) (hl : l.length ≤ 17592186044416) (ha : Rd w a l) (hb : Rd w b l) (hwl : W64 l) :
    Calls Tryd.prog 23 #[.slice a l.length ca, .slice b l.length cb] w fun e w' => LstO w w' e 0 (zw (fun x y => x ||| y) l l) := by
  have h := joined_orO ca cb a b l w hl ha hb hwl
  generalize zw (fun x y => x ||| y) l l = L at h ⊢
  go_enter Tryd.func23, Tryd.ntmps23
  go_wp2_with fail
  refine h.mono ?_
  rintro e w1 ⟨v1, rfl, h1, h2⟩
  obtain ⟨a1, c1, rfl, hc1, r1⟩ := h1.shape
  go_wp2_with fail
  go_ret2
  exact ⟨_, rfl, h1, h2⟩
theorem With_O (a : Option Addr) (c : Nat) (l : List Nat) (i : Int) (w : World) (hl : l.length ≤ 17592186043904) (hi : i ≤ 9223372036854775807) (hr : Rd w a l) (hw : W64 l) :
    Calls Tryd.prog 28 #[.slice a l.length c, .int .i64 i] w fun e w' => LstO w w' e (chE l i) (chL true l i) := by
  by_cases h : 0 ≤ i ∧ i < 64 * (l.length : Int)
  · obtain ⟨n, rfl⟩ := Int.eq_ofNat_of_zero_le h.1
    have := With_okO a c n l w hl (by omega) hr hw
    unfold chE chL
    rw [if_pos h, if_pos h, Int.toNat_natCast]
    exact this
  · refine (With_no a c i l w hl hi h).mono ?_
    rintro e w' ⟨rfl, rfl⟩
    unfold chE chL
    rw [if_neg h, if_neg h]
    exact ⟨_, rfl, Own.nil _ _, Keep.refl _⟩
theorem Less_O (a : Option Addr) (c : Nat) (l : List Nat) (i : Int) (w : World) (hl : l.length ≤ 17592186043904) (hi : i ≤ 9223372036854775807) (hr : Rd w a l) (hw : W64 l) :
    Calls Tryd.prog 30 #[.slice a l.length c, .int .i64 i] w fun e w' => LstO w w' e (chE l i) (chL false l i) := by
  by_cases h : 0 ≤ i ∧ i < 64 * (l.length : Int)
  · obtain ⟨n, rfl⟩ := Int.eq_ofNat_of_zero_le h.1
    have := Less_okO a c n l w hl (by omega) hr hw
    unfold chE chL
    rw [if_pos h, if_pos h, Int.toNat_natCast]
    exact this
  · refine (Less_no a c i l w hl hi h).mono ?_
    rintro e w' ⟨rfl, rfl⟩
    unfold chE chL
    rw [if_neg h, if_neg h]
    exact ⟨_, rfl, Own.nil _ _, Keep.refl _⟩
/-- What append leaves: the same block, or a new one. -/
theorem app_sep (w : World) (B ty : Nat) (v : Value) (l : List Nat) (hown : Own B w v l) (ad : Addr) (m c : Nat) (hm : 0 < m) (news : List Value) (hl : news.length = m) (hnews : ∀ j u, news[j]? = some u → w.cell? (ad.add j) = some u) (h1 : ∀ u ∈ news, u.oneCell' = true)
    (hlen : l.length + m ≤ 17592186044416) (hB : B ≤ w.heap.size) :
    ∃ v' w', (Builtin.append_ #[25, 25] ty #[v, .slice (some ad) m c]).run Tryd.prog w = .ok v' w' ∧ w'.ownsRow B 59 1 v' (l.length + m) (U l ++ news) ∧ w.grownBy w' v.ownBlock ∧ (v'.ownBlock = v.ownBlock ∨ v'.ownBlock = some w.heap.size) := by
  obtain ⟨i0, hi, hz0, hz1, hz2⟩ := info_parts i59
  obtain ⟨v', w', hr, h2, h3, -⟩ := run_append_own (P := Tryd.prog) w B 25 ty 59 i0 (.int .u64 0) 1 8 Tryd.underlying25 hi hz0 hz1 hz2 rfl (by decide) v _ _ hown ad m c news (by omega) hnews h1 (by simp only [maxLen]; omega) (by omega) hB
  refine ⟨v', w', hr, h2, h3, ?_⟩
  rcases hown.2 with ⟨rfl, hn⟩ | ⟨g, cap, cur, rfl, hbg, hg, hnc, hcm, hcs, htake⟩
  · have e := run_append_nil (P := Tryd.prog) w 25 ty 59 i0 _ Tryd.underlying25 hi hz0 ad m c news (by rw [hz1]; omega) hnews hm (by omega) (by rw [hz2]; omega)
    rw [hr] at e
    simp only [Result.ok.injEq] at e
    rw [e.1]
    exact .inr rfl
  · by_cases hroom : l.length + m ≤ cap
    · have e := run_append_room (P := Tryd.prog) w 25 ty 59 i0 Tryd.underlying25 hi g l.length cap cur hg ad m c news (by rw [hz1]; omega) hnews h1 hroom (by rw [hz1]; omega)
      rw [hr] at e
      simp only [Result.ok.injEq] at e
      rw [e.1]
      exact .inl rfl
    · have holds : ∀ j u, (U l)[j]? = some u → w.cell? ((⟨g, 0, none⟩ : Addr).add j) = some u := World.ownsRow.cells (v := .slice (some ⟨g, 0, none⟩) l.length cap) hown (g := g) rfl
      have e := run_append_grow (P := Tryd.prog) w 25 ty 59 i0 _ Tryd.underlying25 hi hz0 ⟨g, 0, none⟩ l.length cap (U l) (by rw [hz1, U_length]; omega) holds ad m c news (by rw [hz1]; omega) hnews (by omega) (by omega) (growslice_fits (by omega) (by rw [hz2]; omega))
      rw [hr] at e
      simp only [Result.ok.injEq] at e
      rw [e.1]
      exact .inr rfl
end Go.Proofs.YtgmnadlmejkkpaaDoor
set_option linter.unusedVariables false
set_option linter.unusedSimpArgs false
namespace Go.Proofs.YtgmnadlmejkkpaaDoor
open Go.RowKit
def upd {α : Type} (f : Nat → α) (k : Nat) (x : α) : Nat → α := fun i => if i = k then x else f i
theorem upd_same {α : Type} (f : Nat → α) (k : Nat) (x : α) : upd f k x k = x := by simp [upd]
theorem upd_other {α : Type} (f : Nat → α) {k i : Nat} (x : α) (h : i ≠ k) : upd f k x i = f i := by simp [upd, h]
/-- Four slices in a box, each with memory of its own. -/
structure Four (B g : Nat) (w : World) (V : Nat → Value) (C : Nat → List Nat) : Prop where
  box : w.heap[g]? = some (.cells #[V 0, V 1, V 2, V 3] 58 (0, 0))
  hg : B ≤ g
  own : ∀ i, i < 4 → Own B w (V i) (C i)
  sep : ∀ i j, i < 4 → j < 4 → i ≠ j → ∀ b, (V i).ownBlock = some b → (V j).ownBlock ≠ some b
theorem Four.lt {B g : Nat} {w : World} {V : Nat → Value} {C : Nat → List Nat} (h : Four B g w V C) : g < w.heap.size := (Array.getElem?_eq_some_iff.1 h.box).1
theorem Four.cell {B g : Nat} {w : World} {V : Nat → Value} {C : Nat → List Nat} (h : Four B g w V C) (k : Nat) (hk : k < 4) : w.cell? ⟨g, k, none⟩ = some (V k) := by
  rw [cell_of_row w g k _ 58 (0, 0) h.box]
  match k, hk with
  | 0, _ => rfl
  | 1, _ => rfl
  | 2, _ => rfl
  | 3, _ => rfl
theorem Four.frozen {B g : Nat} {w : World} {V : Nat → Value} {C : Nat → List Nat} (h : Four B g w V C) (k : Nat) : w.frozen? ⟨g, k, none⟩ = false := frozen_of_row w g k _ 58 h.box
theorem Own.block {B : Nat} {w : World} {v : Value} {l : List Nat} (h : Own B w v l) {b : Nat} (hb : v.ownBlock = some b) : ∃ cur, w.heap[b]? = some (.cells cur 59 (0, 0)) := by
  rcases h.2 with ⟨h1, _⟩ | ⟨g, cap, cur, hv, hg, hh, r⟩
  · rw [h1] at hb; cases hb
  · rw [hv] at hb
    have hb : some g = some b := hb
    simp only [Option.some.injEq] at hb
    subst hb
    exact ⟨cur, hh⟩
theorem Own.same {B : Nat} {w w' : World} {v : Value} {l : List Nat} (h : Own B w v l) (k : ∀ b, v.ownBlock = some b → w'.heap[b]? = w.heap[b]?) : Own B w' v l := by
  refine ⟨h.1, ?_⟩
  rcases h.2 with h2 | ⟨g, cap, cur, hv, hg, hh, r⟩
  · exact .inl h2
  · exact .inr ⟨g, cap, cur, hv, hg, by rw [k g (by rw [hv]; rfl)]; exact hh, r⟩
/-- One of them written at a place. -/
theorem Four.put {B g : Nat} {w : World} {V : Nat → Value} {C : Nat → List Nat} (h : Four B g w V C) {k j b n cap : Nat} (hk : k < 4) (hj : j < (C k).length) (hv : V k = .slice (some ⟨b, 0, none⟩) n cap) (y : Nat) :
    Four B g (w.setCell ⟨b, j, none⟩ (.int .u64 (y : Nat))) V (upd C k ((C k).set j y)) := by
  have hob : (V k).ownBlock = some b := by rw [hv]; rfl
  have hne : ∀ i, i ≠ b → (w.setCell ⟨b, j, none⟩ (.int .u64 (y : Nat))).heap[i]? = w.heap[i]? := fun i hi => Below.heap_setCell _ _ _ _ (by simpa using hi)
  obtain ⟨cur, hcur⟩ := (h.own k hk).block hob
  refine ⟨?_, h.hg, ?_, h.sep⟩
  · rw [hne g ?_]
    · exact h.box
    · intro e
      rw [← e, h.box] at hcur
      simp at hcur
  · intro i hi
    by_cases e : i = k
    · subst e
      rw [upd_same, hv]
      have := h.own i hi
      rw [hv] at this
      exact this.set hj y
    · rw [upd_other _ _ e]
      refine (h.own i hi).same ?_
      intro b' hb'
      refine hne b' ?_
      intro e'
      subst e'
      exact h.sep i k hi hk e b' hb' hob
theorem Four.box1 {B g : Nat} {w w1 : World} {V : Nat → Value} {C : Nat → List Nat} (h : Four B g w V C) {k : Nat} (hk : k < 4) (hgr : w.grownBy w1 (V k).ownBlock) : w1.heap[g]? = some (.cells #[V 0, V 1, V 2, V 3] 58 (0, 0)) := by
  rw [hgr.block g h.lt ?_]
  · exact h.box
  · intro e
    obtain ⟨cur, hcur⟩ := (h.own k hk).block e.symm
    rw [h.box] at hcur
    simp at hcur
theorem Four.cell1 {B g : Nat} {w w1 : World} {V : Nat → Value} {C : Nat → List Nat} (h : Four B g w V C) {k : Nat} (hk : k < 4) (hgr : w.grownBy w1 (V k).ownBlock) : w1.cell? ⟨g, k, none⟩ = some (V k) ∧ w1.frozen? ⟨g, k, none⟩ = false := by
  have hb := h.box1 hk hgr
  refine ⟨?_, frozen_of_row w1 g k _ 58 hb⟩
  rw [cell_of_row w1 g k _ 58 (0, 0) hb]
  match k, hk with
  | 0, _ => rfl
  | 1, _ => rfl
  | 2, _ => rfl
  | 3, _ => rfl
/-- One of them grown. -/
theorem Four.grow {B g : Nat} {w w1 : World} {V : Nat → Value} {C : Nat → List Nat} (h : Four B g w V C) {k : Nat} (hk : k < 4) {v' : Value} {l' : List Nat} (ho : Own B w1 v' l') (hgr : w.grownBy w1 (V k).ownBlock) (hs : v'.ownBlock = (V k).ownBlock ∨ v'.ownBlock = some w.heap.size) :
    Four B g (w1.setCell ⟨g, k, none⟩ v') (upd V k v') (upd C k l') := by
  have hkeep : ∀ i, i < w.heap.size → some i ≠ (V k).ownBlock → w1.heap[i]? = w.heap[i]? := fun i hi hne => hgr.block i hi hne
  have hbox1 : w1.heap[g]? = some (.cells #[V 0, V 1, V 2, V 3] 58 (0, 0)) := by
    rw [hkeep g h.lt ?_]
    · exact h.box
    · intro e
      obtain ⟨cur, hcur⟩ := (h.own k hk).block e.symm
      rw [h.box] at hcur
      simp at hcur
  have hne : ∀ i, i ≠ g → (w1.setCell ⟨g, k, none⟩ v').heap[i]? = w1.heap[i]? := fun i hi => Below.heap_setCell _ _ _ _ (by simpa using hi)
  refine ⟨?_, h.hg, ?_, ?_⟩
  · rw [heap_setCell_same w1 g k _ 58 v' hbox1]
    match k, hk with
    | 0, _ => rfl
    | 1, _ => rfl
    | 2, _ => rfl
    | 3, _ => rfl
  · intro i hi
    by_cases e : i = k
    · subst e
      rw [upd_same, upd_same]
      refine ho.same ?_
      intro b hb
      refine hne b ?_
      intro e'
      subst e'
      obtain ⟨cur, hcur⟩ := ho.block hb
      rw [hbox1] at hcur
      simp at hcur
    · rw [upd_other _ _ e, upd_other _ _ e]
      refine (h.own i hi).same ?_
      intro b hb
      have hbl : b < w.heap.size := ((h.own i hi).lt b hb).2
      rw [hne b ?_, hkeep b hbl ?_]
      · intro e'
        exact h.sep i k hi hk e b hb e'.symm
      · intro e'
        subst e'
        obtain ⟨cur, hcur⟩ := (h.own i hi).block hb
        rw [h.box] at hcur
        simp at hcur
  · intro i j hi hj hij b hb
    have old : ∀ i, i < 4 → i ≠ k → ∀ b, (V i).ownBlock = some b → v'.ownBlock ≠ some b := by
      intro i hi e b hb e'
      rcases hs with hs | hs
      · rw [hs] at e'
        exact h.sep i k hi hk e b hb e'
      · rw [hs] at e'
        simp only [Option.some.injEq] at e'
        have := ((h.own i hi).lt b hb).2
        omega
    by_cases e : i = k
    · subst e
      rw [upd_same] at hb
      rw [upd_other _ _ (Ne.symm hij)]
      intro e'
      exact old j hj (Ne.symm hij) b e' hb
    · rw [upd_other _ _ e] at hb
      by_cases e2 : j = k
      · subst e2
        rw [upd_same]
        exact old i hi e b hb
      · rw [upd_other _ _ e2]
        exact h.sep i j hi hj hij b hb
theorem Four.alloc {B g : Nat} {w : World} {V : Nat → Value} {C : Nat → List Nat} (h : Four B g w V C) (o : Obj) : Four B g (w.alloc o) V C := by
  have hk : Keep w (w.alloc o) := (Keep.refl w).alloc o
  exact ⟨by rw [hk.block g h.lt]; exact h.box, h.hg, fun i hi => (h.own i hi).keep hk, h.sep⟩
theorem Four.keep {B g : Nat} {w w' : World} {V : Nat → Value} {C : Nat → List Nat} (h : Four B g w V C) (hk : Keep w w') : Four B g w' V C :=
  ⟨by rw [hk.block g h.lt]; exact h.box, h.hg, fun i hi => (h.own i hi).keep hk, h.sep⟩
/-- all[k] = append(all[k], 9, 9, 9). -/
theorem wpList_app3 {wr : World} {ops : Array Oper} {rest : List Oper} {o : Oper} {a : Act} {Q : Exit → Act → World → Prop} (hgd : o.guard = none) (s x : Operand)
    (ho : o.op = .call { callee := .builtin .append, args := #[s, x], argTypes := #[25, 25] }) (B : Nat) (l : List Nat) (v : Value) (hs : a.eval s = v)
    (hx : a.eval x = .slice (some ⟨wr.heap.size, 0, none⟩) 3 3) (hown : Own B wr v l) (hB : B ≤ wr.heap.size) (hlen : l.length + 3 ≤ 17592186044416)
    (hK : ∀ v' w1, Own B w1 v' (l ++ [9, 9, 9]) → (wr.alloc (.cells #[.int .u64 9, .int .u64 9, .int .u64 9] 59)).grownBy w1 v.ownBlock → (v'.ownBlock = v.ownBlock ∨ v'.ownBlock = some (wr.heap.size + 1)) → wpList Tryd.prog ops Q rest (a.put o.dst v') w1) :
    wpList Tryd.prog ops Q (o :: rest) a (wr.alloc (.cells #[.int .u64 9, .int .u64 9, .int .u64 9] 59)) := by
  obtain ⟨v', w1, hr, h2, h3, h4⟩ := app_sep (wr.alloc (.cells #[.int .u64 9, .int .u64 9, .int .u64 9] 59)) B o.type v l (hown.alloc _) ⟨wr.heap.size, 0, none⟩ 3 3 (by decide) [.int .u64 9, .int .u64 9, .int .u64 9] rfl (by
    intro j u hj
    match j, hj with
    | 0, hj => simp at hj; subst hj; simp [Addr.add]
    | 1, hj => simp at hj; subst hj; simp [Addr.add]
    | 2, hj => simp at hj; subst hj; simp [Addr.add]) (by intro u hu; simp at hu; subst hu; rfl) hlen (by simp; omega)
  refine wpList_plain hgd fun K hK' => ?_
  unfold Oper.wp execOp
  simp only [ho, resolve, invoke, builtin, Sem.run_bind, Sem.run_pure, Result.andThen_ok, List.map_toArray, List.map_cons, List.map_nil, hs, hx, hr]
  refine hK' _ _ (hK v' w1 ?_ h3 ?_)
  · unfold Own; simpa [U] using h2
  · simpa using h4
theorem ownsRow_set {w : World} {B e size g n cap j : Nat} {xs : List Value} (u : Value) (h : w.ownsRow B e size (.slice (some ⟨g, 0, none⟩) n cap) n xs) (hj : j < n * size) :
    (w.setCell ⟨g, j, none⟩ u).ownsRow B e size (.slice (some ⟨g, 0, none⟩) n cap) n (xs.set j u) ∧ (∃ v, w.cell? ⟨g, j, none⟩ = some v) ∧ w.frozen? ⟨g, j, none⟩ = false ∧ B ≤ g := by
  rcases h.2 with ⟨h1, h2⟩ | ⟨g', cap', cur, hv, hg, hh, h1, h2, h3, h4⟩
  · cases h1
  · simp only [Value.slice.injEq, Option.some.injEq, Addr.mk.injEq, and_true, true_and] at hv
    obtain ⟨rfl, rfl⟩ := hv
    have hjc : j < cur.size := by rw [h3]; exact Nat.lt_of_lt_of_le hj (Nat.mul_le_mul_right _ h1)
    refine ⟨⟨by rw [List.length_set]; exact h.1, .inr ⟨g, cap, cur.setIfInBounds j u, rfl, hg, heap_setCell_same w g j cur e u hh, h1, h2, by simpa using h3, ?_⟩⟩, ⟨cur[j], ?_⟩, frozen_of_row w g j cur e hh, hg⟩
    · rw [Array.toList_setIfInBounds, List.take_set, h4]
    · rw [cell_of_row w g j cur e (0, 0) hh]
      simp [hjc]
/-- r = append(r, Run{}, Run{}). -/
theorem wpList_app2R {w0 wr : World} {ops : Array Oper} {rest : List Oper} {o : Oper} {a : Act} {Q : Exit → Act → World → Prop} (hgd : o.guard = none) (s x : Operand)
    (ho : o.op = .call { callee := .builtin .append, args := #[s, x], argTypes := #[44, 44] }) (n : Nat) (xs : List Value) (v : Value) (hs : a.eval s = v)
    (hx : a.eval x = .slice (some ⟨wr.heap.size, 0, none⟩) 2 2) (hown : wr.ownsRow w0.heap.size 55 2 v n xs) (hk : Keep w0 wr) (hlen : n < 1099511627776)
    (hK : ∀ a' c' w1, Keep w0 w1 → wpList Tryd.prog ops Q rest (a.put o.dst (.slice a' (n + 2) c')) w1) :
    wpList Tryd.prog ops Q (o :: rest) a (wr.alloc (.cells #[.int .i64 0, .int .i64 0, .int .i64 0, .int .i64 0] 55)) := by
  obtain ⟨i0, hi, hz0, hz1, hz2⟩ := info_parts i55
  refine wpList_append_own _ hgd s x 44 ho w0.heap.size 55 i0 _ 2 16 Tryd.underlying44 hi hz0 hz1 hz2 rfl (by decide) v _ _ hs (hown.alloc _) ⟨wr.heap.size, 0, none⟩ 2 2 [.int .i64 0, .int .i64 0, .int .i64 0, .int .i64 0] hx rfl ?_ ?_ ?_ ?_ ?_ ?_
  · intro j u hj
    match j, hj with
    | 0, hj => simp at hj; subst hj; simp [Addr.add]
    | 1, hj => simp at hj; subst hj; simp [Addr.add]
    | 2, hj => simp at hj; subst hj; simp [Addr.add]
    | 3, hj => simp at hj; subst hj; simp [Addr.add]
  · intro u hu; simp at hu; subst hu; rfl
  · simp only [maxLen]; omega
  · omega
  · have := hk.le; simp; omega
  · intro v' w1 h1 h2 _
    have k1 : Keep w0 w1 := by
      refine Below.grown (hk.alloc _) h2 (by have := hk.le; simp; omega) ?_
      intro k hk'
      have := hown.lt k hk'
      exact this.1
    rcases h1.2 with ⟨_, z2⟩ | ⟨g, cap, cur, hv, _⟩
    · omega
    · rw [hv]; exact hK _ _ w1 k1
def pick4 {α : Type} (x0 x1 x2 x3 : α) : Nat → α := fun k => if k = 0 then x0 else if k = 1 then x1 else if k = 2 then x2 else x3
theorem four_start {w2 w3 w4 w5 w6 : World} {v3 v4 v5 v6 : Value} {L1 L2 L3 L4 : List Nat} (o3 : Own w2.heap.size w3 v3 L1) (o4 : Own w3.heap.size w4 v4 L2) (o5 : Own w4.heap.size w5 v5 L3) (o6 : Own w5.heap.size w6 v6 L4)
    (k3 : Keep w2 w3) (k4 : Keep w3 w4) (k5 : Keep w4 w5) (k6 : Keep w5 w6) : Four w2.heap.size w6.heap.size (w6.alloc (.cells #[v3, v4, v5, v6] 58)) (pick4 v3 v4 v5 v6) (pick4 L1 L2 L3 L4) := by
  have kA : Keep w6 (w6.alloc (.cells #[v3, v4, v5, v6] 58)) := (Keep.refl _).alloc _
  have s3 := k3.le
  have s4 := k4.le
  have s5 := k5.le
  have s6 := k6.le
  refine ⟨heap_alloc_new w6 _, by omega, ?_, ?_⟩
  · intro i hi
    match i, hi with
    | 0, _ => exact o3.keep (((k4.trans k5).trans k6).trans kA)
    | 1, _ => exact (o4.keep ((k5.trans k6).trans kA)).mono (by omega)
    | 2, _ => exact (o5.keep (k6.trans kA)).mono (by omega)
    | 3, _ => exact (o6.keep kA).mono (by omega)
  · have b3 := fun b h => o3.lt b h
    have b4 := fun b h => o4.lt b h
    have b5 := fun b h => o5.lt b h
    have b6 := fun b h => o6.lt b h
    have key : ∀ i, i < 4 → ∀ b, (pick4 v3 v4 v5 v6 i).ownBlock = some b → (i = 0 ∧ w2.heap.size ≤ b ∧ b < w3.heap.size) ∨ (i = 1 ∧ w3.heap.size ≤ b ∧ b < w4.heap.size) ∨ (i = 2 ∧ w4.heap.size ≤ b ∧ b < w5.heap.size) ∨ (i = 3 ∧ w5.heap.size ≤ b ∧ b < w6.heap.size) := by
      intro i hi b hb
      match i, hi with
      | 0, _ => have := b3 b hb; omega
      | 1, _ => have := b4 b hb; omega
      | 2, _ => have := b5 b hb; omega
      | 3, _ => have := b6 b hb; omega
    intro i j hi hj hij b h1 h2
    have q1 := key i hi b h1
    have q2 := key j hj b h2
    omega
end Go.Proofs.YtgmnadlmejkkpaaDoor
set_option linter.unusedVariables false
set_option linter.unusedSimpArgs false
namespace Go.Proofs.YtgmnadlmejkkpaaDoor
open Go.RowKit
set_option maxRecDepth 100000 in
set_option maxHeartbeats 1000000 in
theorem law_own (a : Option Addr) (ca : Nat) (l : List Nat) (i : Int) (w : World) (hca : l.length ≤ ca) (hl : l.length ≤ 1048576) (hi : i ≤ 9223372036854775807) (ha : Rd w a l) (hw : W64 l) (hT : Tab w) :
    Calls Tryd.prog 11 #[.slice a l.length ca, .int .i64 i] w fun e w' => e = .returned (.bool true) ∧ Keep w w' := by
  have hLv := lives_any w hT
  have hCp := fun wx (k : Keep w wx) => copied_any a ca l wx (by omega) hca (ha.keep k)
  have n1 := chL_len true l i
  have n2 := chL_len false l i
  have n3 : (zw (fun x y => x &&& y) l l).length = l.length := zw_length _ rfl
  have n4 : (zw (fun x y => x ||| y) l l).length = l.length := zw_length _ rfl
  go_enter Tryd.func11, Tryd.ntmps11
  go_wp2_with fail
  refine hLv.mono ?_
  rintro e w1 ⟨rfl, k1⟩
  go_wp2_with fail
  refine (hCp w1 k1).mono ?_
  rintro e w2 ⟨vc, rfl, oc, k2⟩
  have t2 := k1.trans k2
  obtain ⟨ac, cc, rfl, hcc, rc⟩ := oc.shape
  clear hLv hCp
  have A1 := With_O ac cc l i w2 (by omega) hi rc hw
  have A2 := fun wx (k : Keep w2 wx) => Less_O ac cc l i wx (by omega) hi (rc.keep k) hw
  have A3 := fun wx (k : Keep w2 wx) => And_O cc cc ac ac l wx (by omega) (rc.keep k) (rc.keep k) hw
  have A4 := fun wx (k : Keep w2 wx) => Or_O cc cc ac ac l wx (by omega) (rc.keep k) (rc.keep k) hw
  generalize chL true l i = L1 at *
  generalize chL false l i = L2 at *
  generalize zw (fun x y => x &&& y) l l = L3 at *
  generalize zw (fun x y => x ||| y) l l = L4 at *
  go_wp2_with fail
  refine A1.mono ?_
  rintro e w3 ⟨v3, rfl, o3, k3⟩
  obtain ⟨a3, c3, rfl, hc3, -⟩ := o3.shape
  go_wp2_with fail
  refine (A2 w3 k3).mono ?_
  rintro e w4 ⟨v4, rfl, o4, k4⟩
  obtain ⟨a4, c4, rfl, hc4, -⟩ := o4.shape
  have t4 := k3.trans k4
  go_wp2_with fail
  refine (A3 w4 t4).mono ?_
  rintro e w5 ⟨v5, rfl, o5, k5⟩
  obtain ⟨a5, c5, rfl, hc5, -⟩ := o5.shape
  have t5 := t4.trans k5
  go_wp2_with fail
  refine (A4 w5 t5).mono ?_
  rintro e w6 ⟨v6, rfl, o6, k6⟩
  obtain ⟨a6, c6, rfl, hc6, -⟩ := o6.shape
  have t6 := t5.trans k6
  clear A1 A2 A3 A4
  have hch : chE l i = 0 ∧ (0 ≤ i ∧ i < (l.length : Int) * 64) ∨ chE l i = 2 ∧ ¬ (0 ≤ i ∧ i < (l.length : Int) * 64) := by
    unfold chE
    by_cases h : 0 ≤ i ∧ i < 64 * (l.length : Int)
    · rw [if_pos h]; exact .inl ⟨rfl, by omega⟩
    · rw [if_neg h]; exact .inr ⟨rfl, by omega⟩
  generalize chE l i = E at *
  have F0 := four_start o3 o4 o5 o6 k3 k4 k5 k6
  have hN : ∀ k, k < 4 → (pick4 L1 L2 L3 L4 k).length ≤ l.length := by
    intro k hk
    match k, hk with
    | 0, _ => exact n1
    | 1, _ => exact n2
    | 2, _ => exact Nat.le_of_eq n3
    | 3, _ => exact Nat.le_of_eq n4
  have kA : Keep w2 (w6.alloc (.cells #[.slice a3 L1.length c3, .slice a4 L2.length c4, .slice a5 L3.length c5, .slice a6 L4.length c6] 58)) := t6.alloc _
  rw [n3] at F0 kA
  rw [n4] at F0 kA
  have hch' : (E = 0 ∧ 0 ≤ i ∧ i < 64 * (l.length : Int)) ∨ (E = 2 ∧ 0 ≤ i ∧ ¬ i < 64 * (l.length : Int)) ∨ (E = 2 ∧ ¬ 0 ≤ i) := by omega
  clear hch o3 o4 o5 o6 k3 k4 k5 k6 t4 t5 t6
  generalize pick4 (Value.slice a3 L1.length c3) (Value.slice a4 L2.length c4) (Value.slice a5 l.length c5) (Value.slice a6 l.length c6) = V at F0
  generalize pick4 L1 L2 L3 L4 = C at F0 hN
  rcases hch' with ⟨rfl, h0, h1⟩ | ⟨rfl, h0, h1⟩ | ⟨rfl, h0⟩
  all_goals
    go_wp2_with fail
    generalize w6.alloc _ = W at F0 kA ⊢
    generalize w6.heap.size = g at F0 ⊢
    go_loopw [74] (fun iv wr => ∃ (k : Nat) (D : Nat → List Nat), k ≤ 4 ∧ iv = .int .i64 k ∧ Four w2.heap.size g wr V D ∧ Hid (∀ i, i < 4 → (D i).length = (C i).length) ∧ Hid (∀ i, i < k → i < 4 → ∀ j, j < (D i).length → (D i).getD j 0 = i + 3) ∧ Keep w2 wr) (fun iv _ => 4 - (intOf iv).toNat)
    case atStart => exact ⟨0, C, by omega, rfl, F0, fun i _ => rfl, fun i hi => by omega, kA⟩
    case round =>
      obtain ⟨k, D, hk, rfl, F, hlen, hval, hkp⟩ := hrel
      by_cases hk4 : k < 4
      · have hck := F.cell k hk4
        obtain ⟨av, cv, hv, hcv, rv⟩ := (F.own k hk4).shape
        rw [hv] at hck
        have hDl : (D k).length ≤ 1048576 := by rw [hlen.out k hk4]; have := hN k hk4; omega
        obtain ⟨wo, hwo⟩ : ∃ wo, wo = wr := ⟨_, rfl⟩
        subst hwo
        go_wp2_with fail
        go_loopw [81] (fun jv wr => ∃ (j : Nat) (G : Nat → List Nat), j ≤ (D k).length ∧ jv = .int .i64 j ∧ Four w2.heap.size g wr V G ∧ Hid (∀ i, i < 4 → (G i).length = (C i).length) ∧ Hid ((∀ i, i < k → i < 4 → ∀ j, j < (G i).length → (G i).getD j 0 = i + 3) ∧ ∀ q, q < j → (G k).getD q 0 = k + 3) ∧ Keep w2 wr) (fun jv _ => (D k).length - (intOf jv).toNat)
        case atStart => exact ⟨0, D, by omega, rfl, F, hlen, ⟨hval.out, fun q hq => by omega⟩, hkp⟩
        case round =>
          obtain ⟨j, G, hj, rfl, FG, glen, gval, gkp⟩ := hrel
          have gl : Hid ((G k).length = (D k).length) := by show _ = _; rw [glen.out k hk4, hlen.out k hk4]
          by_cases hjl : j < (D k).length
          · have hgk := FG.cell k hk4
            obtain ⟨b, cur, cap, hvb, hbB, hrow, hcapb, hcu⟩ := (FG.own k hk4).cells (by rw [gl.out]; omega)
            rw [hvb, gl.out] at hgk
            have hjG : j < (G k).length := by rw [gl.out]; exact hjl
            have hcj := hrow.cell j
            rw [hcu j hjG] at hcj
            have hfz := hrow.frozen j
            have FP := FG.put hk4 hjG hvb (k + 3)
            have kP := gkp.setCell (p := ⟨b, j, none⟩) hbB (.int .u64 ((k + 3 : Nat) : Int))
            have HL : Hid (∀ i, i < 4 → (upd G k ((G k).set j (k + 3)) i).length = (C i).length) := by
              intro i hi
              by_cases e : i = k
              · subst e; rw [upd_same, List.length_set]; exact glen.out i hi
              · rw [upd_other _ _ e]; exact glen.out i hi
            have HV : Hid ((∀ i, i < k → i < 4 → ∀ q, q < (upd G k ((G k).set j (k + 3)) i).length → (upd G k ((G k).set j (k + 3)) i).getD q 0 = i + 3) ∧ ∀ q, q < j + 1 → (upd G k ((G k).set j (k + 3)) k).getD q 0 = k + 3) := by
              refine ⟨?_, ?_⟩
              · intro i hi hi4 q hq
                rw [upd_other _ _ (by omega)] at hq ⊢
                exact gval.out.1 i hi hi4 q hq
              · intro q hq
                rw [upd_same]
                by_cases e : q = j
                · subst e; simp [List.getD, hjG]
                · have := gval.out.2 q (by omega)
                  simp only [List.getD, List.getElem?_set] at this ⊢
                  rw [if_neg (by omega)]
                  exact this
            have hjc : (j : Int) < ((D k).length : Int) := by omega
            clear hcu gval glen hlen hval rv
            obtain ⟨y, hy⟩ : ∃ y, (G k).getD j 0 = y := ⟨_, rfl⟩
            rw [hy] at hcj
            clear hy
            have h34 : IntKind.u64.wrap ((k : Int) + 3) = (k : Int) + 3 := by rw [IntKind.wrap_u64]; omega
            go_wp2_with fail
            go_roundw
            case rel => exact ⟨j + 1, _, by omega, by go_num, FP, HL, HV, kP⟩
            case measure => simp [intOf]; omega
          · have HV : Hid (∀ i, i < k + 1 → i < 4 → ∀ q, q < (G i).length → (G i).getD q 0 = i + 3) := by
              intro i hi hi4 q hq
              by_cases e : i = k
              · subst e; exact gval.out.2 q (by have := gl.out; omega)
              · exact gval.out.1 i (by omega) hi4 q hq
            have hjc : ¬ (j : Int) < ((D k).length : Int) := by omega
            clear gval hlen hval rv
            go_wp2_with fail
            go_roundw
            case rel => exact ⟨k + 1, G, by omega, by go_num, FG, glen, HV, gkp⟩
            case measure => simp [intOf]; omega
      · have HV : Hid (∀ i, i < 4 → ∀ q, q < (D i).length → (D i).getD q 0 = i + 3) := fun i hi => hval.out i (by omega) hi
        have hkc : ¬ (k : Int) < 4 := by omega
        clear hval hk4
        go_wp2_with fail
        clear F0 kA
        obtain ⟨wA, hwA⟩ : ∃ wA, wA = wr := ⟨_, rfl⟩
        subst hwA
        go_loopw [94] (fun iv wr => ∃ (k : Nat) (X : Nat → Value) (G : Nat → List Nat), k ≤ 4 ∧ iv = .int .i64 k ∧ Four w2.heap.size g wr X G ∧ Hid (∀ i, i < 4 → (G i).length = (D i).length + (if i < k then 3 else 0)) ∧ Hid (∀ i, i < 4 → ∀ q, q < (D i).length → (G i).getD q 0 = i + 3) ∧ Keep w2 wr) (fun iv _ => 4 - (intOf iv).toNat)
        case atStart => exact ⟨0, V, D, by omega, rfl, F, fun i _ => by simp, HV, hkp⟩
        case round =>
          obtain ⟨k, X, G, hkB, rfl, FG, glen, gval, gkp⟩ := hrel
          by_cases hk4 : k < 4
          · have hck := FG.cell k hk4
            have hfz := FG.frozen k
            obtain ⟨av, cv, hv, hcv, rv⟩ := (FG.own k hk4).shape
            rw [hv] at hck
            have hGl : (G k).length ≤ 1048580 := by rw [glen.out k hk4, hlen.out k hk4]; have := hN k hk4; split <;> omega
            have hown := FG.own k hk4
            rw [hv] at hown
            have S1 : ∀ w1, (wr.alloc (.cells #[.int .u64 9, .int .u64 9, .int .u64 9] 59)).grownBy w1 (Value.slice av (G k).length cv).ownBlock → w1.cell? ⟨g, k, none⟩ = some (Value.slice av (G k).length cv) ∧ w1.frozen? ⟨g, k, none⟩ = false := by
              intro w1 h
              have := (FG.alloc (.cells #[.int .u64 9, .int .u64 9, .int .u64 9] 59)).cell1 hk4 (by rw [hv]; exact h)
              rwa [hv] at this
            have S2 : ∀ w1 v', Own w2.heap.size w1 v' (G k ++ [9, 9, 9]) → (wr.alloc (.cells #[.int .u64 9, .int .u64 9, .int .u64 9] 59)).grownBy w1 (Value.slice av (G k).length cv).ownBlock → (v'.ownBlock = (Value.slice av (G k).length cv).ownBlock ∨ v'.ownBlock = some (wr.heap.size + 1)) → Four w2.heap.size g (w1.setCell ⟨g, k, none⟩ v') (upd X k v') (upd G k (G k ++ [9, 9, 9])) := by
              intro w1 v' h1 h2 h3
              exact (FG.alloc _).grow hk4 h1 (by rw [hv]; exact h2) (by rw [hv]; simpa using h3)
            have h48 : (G k).length + 3 ≤ 17592186044416 := by omega
            go_wp2_with (at_builtin; refine wpList_app3 rfl _ _ rfl w2.heap.size (G k) _ rfl rfl hown gkp.le h48 ?_; intro v' w1 hown' hgr hsep; obtain ⟨hc1, hf1⟩ := S1 _ hgr; have FN := S2 _ _ hown' hgr hsep; obtain ⟨av', cv', rfl, hcv', -⟩ := hown'.shape)
            have hlt := FG.hg
            have k1 : Keep w2 w1 := by
              refine Below.grown (gkp.alloc _) hgr (by have := gkp.le; simp; omega) ?_
              intro b hb
              exact (hown.lt b hb).1
            have HL : Hid (∀ i, i < 4 → (upd G k (G k ++ [9, 9, 9]) i).length = (D i).length + (if i < k + 1 then 3 else 0)) := by
              intro i hi
              by_cases e : i = k
              · subst e
                rw [upd_same, List.length_append, glen.out i hi, if_neg (by omega), if_pos (by omega)]
                rfl
              · rw [upd_other _ _ e, glen.out i hi]
                by_cases e2 : i < k
                · rw [if_pos e2, if_pos (by omega)]
                · rw [if_neg e2, if_neg (by omega)]
            have HV2 : Hid (∀ i, i < 4 → ∀ q, q < (D i).length → (upd G k (G k ++ [9, 9, 9]) i).getD q 0 = i + 3) := by
              intro i hi q hq
              by_cases e : i = k
              · subst e
                rw [upd_same]
                have h1 := gval.out i hi q hq
                have h2 : q < (G i).length := by rw [glen.out i hi]; omega
                simp only [List.getD, List.getElem?_append_left h2] at h1 ⊢
                exact h1
              · rw [upd_other _ _ e]; exact gval.out i hi q hq
            have e9 : (G k ++ [9, 9, 9]).length = (G k).length + 3 := by simp
            rw [e9] at FN
            clear e9
            go_wp2_with fail
            go_roundw
            case rel => exact ⟨k + 1, _, _, by omega, by go_num, FN, HL, HV2, k1.setCell hlt _⟩
            case measure => simp [intOf]; omega
          · have HL : Hid (∀ i, i < 4 → (G i).length = (D i).length + 3) := fun i hi => by rw [glen.out i hi, if_pos (by omega)]
            have hkc' : ¬ (k : Int) < 4 := by omega
            clear glen hk4
            go_wp2_with fail
            clear F HV hkp
            obtain ⟨wB, hwB⟩ : ∃ wB, wB = wr := ⟨_, rfl⟩
            subst hwB
            go_loopw [105] (fun iv wr => ∃ m : Nat, m ≤ 4 ∧ iv = .int .i64 m ∧ wr = wB) (fun iv _ => 4 - (intOf iv).toNat)
            case atStart => exact ⟨0, by omega, rfl, rfl⟩
            case round =>
              obtain ⟨m, hm, rfl, hwr⟩ := hrel
              subst hwr
              by_cases hm4 : m < 4
              · have hck := FG.cell m hm4
                obtain ⟨av, cv, hv, hcv, rv⟩ := (FG.own m hm4).shape
                rw [hv] at hck
                have hml : (D m).length ≤ 1048576 := by rw [hlen.out m hm4]; have := hN m hm4; omega
                have hGl := HL.out m hm4
                rw [hGl] at hck
                have hvv := gval.out m hm4
                have Hvv : Hid (∀ q, q < (D m).length → (G m).getD q 0 = m + 3) := hvv
                have Hgl : Hid ((G m).length = (D m).length + 3) := hGl
                clear hGl hvv
                obtain ⟨wo, hwo⟩ : ∃ wo, wo = wr := ⟨_, rfl⟩
                subst hwo
                go_wp2_with fail
                go_loopw [20] (fun jv wr => ∃ j : Nat, j ≤ (D m).length ∧ jv = .int .i64 j ∧ wr = wo) (fun jv _ => (D m).length - (intOf jv).toNat)
                case atStart => exact ⟨0, by omega, rfl, rfl⟩
                case round =>
                  obtain ⟨j, hj, rfl, hwr⟩ := hrel
                  subst hwr
                  by_cases hjl : j < (D m).length
                  · obtain ⟨b, o, rfl, hc⟩ := rv j (by rw [Hgl.out]; omega)
                    rw [Hvv.out j hjl] at hc
                    have hjc : (j : Int) < ((D m).length : Int) := by omega
                    have h34 : IntKind.u64.wrap ((m : Int) + 3) = (m : Int) + 3 := by rw [IntKind.wrap_u64]; omega
                    go_wp2_with fail
                    go_roundw
                    case rel => exact ⟨j + 1, by omega, by go_num, trivial⟩
                    case measure => simp [intOf]; omega
                  · have hjc : ¬ (j : Int) < ((D m).length : Int) := by omega
                    go_wp2_with fail
                    go_roundw
                    case rel => exact ⟨m + 1, by omega, by go_num, trivial⟩
                    case measure => simp [intOf]; omega
              · have hmc : ¬ (m : Int) < 4 := by omega
                have rc1 := rc.keep gkp
                have hR := fun wx (h : Keep wr wx) => Runs_st ac cc l wx hl (rc1.keep h) hw ((hT.keep t2).keep (gkp.trans h))
                go_wp2_with fail
                refine (hR wr (Keep.refl _)).mono ?_
                rintro e x1 ⟨vr, L, rfl, or1, hlen1, ch1, cv1, st1, y1⟩
                have eL : Hid (L = rnr (allB l)) := runs_one ch1 cv1 st1
                clear ch1 cv1 st1
                obtain ⟨ar, cr, hvr, hcr, -⟩ := or1.shape
                rw [hvr]
                go_wp2_with fail
                obtain ⟨wC, hwC⟩ : ∃ wC, wC = wr := ⟨_, rfl⟩
                subst hwC
                have or1' : x1.ownsRow wC.heap.size 55 2 (.slice ar L.length cr) L.length (UR L) := by rw [← hvr]; exact or1
                clear or1 hvr
                have hLb : L.length ≤ 67108864 := by omega
                go_loopw [132] (fun iv wr => ∃ (q : Nat) (xs : List Value), q ≤ L.length ∧ iv = .int .i64 q ∧ wr.ownsRow wC.heap.size 55 2 (.slice ar L.length cr) L.length xs ∧ Keep wC wr) (fun iv _ => L.length - (intOf iv).toNat)
                case atStart => exact ⟨0, UR L, by omega, rfl, or1', y1⟩
                case round =>
                  obtain ⟨q, xs, hq, rfl, ox, xk⟩ := hrel
                  by_cases hql : q < L.length
                  · have hqc : (q : Int) < (L.length : Int) := by omega
                    obtain ⟨b, rfl⟩ : ∃ b, ar = some ⟨b, 0, none⟩ := by
                      rcases ox.2 with ⟨z1, z2⟩ | ⟨b, cap, cur, z1, _⟩
                      · omega
                      · simp only [Value.slice.injEq] at z1
                        exact ⟨b, z1.1⟩
                    obtain ⟨p1, ⟨v1, p2⟩, p3, p4⟩ := ownsRow_set (j := q * 2) (.int .i64 (-1)) ox (by omega)
                    obtain ⟨r1, ⟨v2, r2⟩, r3, r4⟩ := ownsRow_set (j := q * 2 + 1) (.int .i64 (-1)) p1 (by omega)
                    obtain ⟨-, ⟨v3, s2⟩, s3, -⟩ := ownsRow_set (j := q * 2 + 1) (.int .i64 (-1)) ox (by omega)
                    go_wp2_with fail
                    go_roundw
                    case rel => exact ⟨q + 1, _, by omega, by go_num, r1, (xk.setCell p4 _).setCell p4 _⟩
                    case measure => simp [intOf]; omega
                  · have hqc : ¬ (q : Int) < (L.length : Int) := by omega
                    go_wp2_with (at_builtin; refine wpList_app2R (w0 := wC) rfl _ _ rfl L.length xs _ rfl rfl ox xk (by omega) ?_; intro a' c' x2 xk2)
                    have kz := gkp.trans xk2
                    have rc2 := rc.keep kz
                    have ra2 := (ha.keep t2).keep kz
                    have hS := Same_any ac a cc ca l x2 (by omega) rc2 ra2
                    refine hS.mono ?_
                    rintro e x3 ⟨rfl, y3⟩
                    go_wp2_with fail
                    refine (hR x3 (xk2.trans y3)).mono ?_
                    rintro e x4 ⟨v4, M, rfl, o4, hlen4, ch4, cv4, st4, y4⟩
                    have eM : Hid (M = rnr (allB l)) := runs_one ch4 cv4 st4
                    clear ch4 cv4 st4
                    obtain ⟨a9, c9, rfl, -, rd4⟩ := o4.shape
                    have hR2 := fun wx (h : Keep x2 wx) => rRuns_any a ca l wx hl (ra2.keep h) hw
                    go_wp2_with fail
                    refine (hR2 x4 (y3.trans y4)).mono ?_
                    rintro e x5 ⟨v5, rfl, o5, y5⟩
                    rw [← eM.out] at o5
                    obtain ⟨a8, c8, rfl, -, rd5⟩ := o5.shape
                    have hC := runs_same a9 a8 c9 c8 M x5 (by omega) (rd4.keep y5) rd5
                    go_wp2_with fail
                    refine hC.mono ?_
                    rintro e x6 ⟨rfl, y6⟩
                    go_wp2_with fail
                    refine (hR2 x6 (((y3.trans y4).trans y5).trans y6)).mono ?_
                    rintro e x7 ⟨v7, rfl, o7, y7⟩
                    rw [← eL.out] at o7
                    obtain ⟨a7, c7, rfl, -, -⟩ := o7.shape
                    go_wp2_with fail
                    go_ret
                    exact ⟨rfl, t2.trans (kz.trans ((((y3.trans y4).trans y5).trans y6).trans y7))⟩
end Go.Proofs.YtgmnadlmejkkpaaDoor
