import Derived.Test.YtpdjpjkieafnbaaGreatDoorV3
set_option linter.unusedVariables false
set_option linter.unusedSimpArgs false
namespace Go.Proofs.YtpdjpjkieafnbaaGreatDoor.Li
open Go.RowKit Lb Nr
set_option maxRecDepth 100000 in
set_option maxHeartbeats 2000000 in
theorem near_none (neg : Bool) (a b : Option Addr) (ca cb : Nat) (la lb : List Nat) (w : World) (hca : la.length ≤ ca) (hcb : lb.length ≤ cb) (hla : la.length ≤ 35184372087808) (hlb : lb.length ≤ 35184372087808) (hra : Rd w a la) (hrb : Rd w b lb) (hma : Lim la) (hmb : Lim lb) (h0 : val lb = 0) :
    Calls Tryz.prog 10 #[.bool neg, .slice a la.length ca, .slice b lb.length cb] w fun e w' => e = .returned (.bool true) ∧ Keep w w' := by
  have hB := fun wx => begins_any wx
  have hOv := fun wx (kx : Keep w wx) => Over_form neg a b ca cb la lb wx hca hcb (by omega) (by omega) (hra.keep kx) (hrb.keep kx) hma hmb
  have hN := fun wx (kx : Keep w wx) => pN_zero neg (.slice a la.length ca) (.slice b lb.length cb) 35184372087808 wx ⟨b, cb, lb, rfl, hcb, hlb, hrb.keep kx, hmb, h0⟩ (by omega)
  have hRE : RE (val lb) = 11 := by unfold RE; rw [if_pos h0]
  clear h0
  go_enter Tryz.func10, Tryz.ntmps10
  go_wp2_with fail
  refine (hB _).mono ?_
  rintro e w1 ⟨rfl, k1⟩
  go_wp2_with fail
  refine (hOv _ k1).mono ?_
  rintro e w2 ⟨an, cn, ln, ad, cd, ld, rfl, g1, g2, r1, r2, q1, q2, n1, n2, e1, e2, k2⟩
  rw [hRE]
  generalize RS neg (val la) (val lb) = rs
  have K2 : Hid (Keep w w2) := k1.trans k2
  have hN' := hN _ (K2.out.alloc (.cells #[.bool rs, .slice an ln.length cn, .slice ad ld.length cd] 54))
  clear hN hOv hB k1 k2 r1 r2 e1 e2
  go_wp2_with fail
  refine hN'.mono ?_
  rintro e w3 ⟨rfl, k3⟩
  go_wp2_with fail
  go_ret
  exact ⟨rfl, (K2.out.alloc _).trans k3⟩
/-- How far a quotient lies from whatever the bits say. -/
theorem away_any {x y z : Value} {L : Nat} {s : Bool} {n d : Nat} (b : Nat) (hb : b < 18446744073709551616) (w : World) (hA : QL L w x y z s n d) (hL : L ≤ 35184372087808) (hd : 0 < d) :
    Calls Tryz.prog 42 #[.agg #[x, y, z], .float .f64 b] w fun e w' => ∃ s' a1 n1 c1 a2 n2 c2, e = .returned (.tuple #[.agg #[.bool s', .slice a1 n1 c1, .slice a2 n2 c2], .bool (!(qB b))]) ∧ Keep w w' ∧ (qB b = false → s' = false ∧ QL (L + 41) w' (.bool false) (.slice a1 n1 c1) (.slice a2 n2 c2) false (awN s n d b) (awD s n d b)) := by
  cases hq : qB b with
  | true =>
    refine (away_bad b hb w hq hA).mono ?_
    rintro e w' ⟨s', a1, n1, c1, a2, n2, c2, rfl, k⟩
    exact ⟨s', a1, n1, c1, a2, n2, c2, rfl, k, fun h => by cases h⟩
  | false =>
    refine (away_ok b hb w hq hA hL hd).mono ?_
    rintro e w' ⟨y', z', rfl, hQ, k⟩
    have hQ2 := hQ
    obtain ⟨a1, c1, l1, a2, c2, l2, -, rfl, rfl, -⟩ := hQ
    exact ⟨false, a1, _, c1, a2, _, c2, rfl, k, fun _ => ⟨rfl, hQ2⟩⟩
theorem QL.box3 {L : Nat} {w : World} {x y z : Value} {s : Bool} {n d g : Nat} {p q r : Value} (h : QL L w x y z s n d) (hb : Box w g p q r) (hp : ∀ x, p ≠ .int .u32 x) (hq : ∀ x, q ≠ .int .u32 x) (hr : ∀ x, r ≠ .int .u32 x) (X Y Z : Value) : QL L (((w.setCell ⟨g, 0, none⟩ X).setCell ⟨g, 1, none⟩ Y).setCell ⟨g, 2, none⟩ Z) x y z s n d := by
  obtain ⟨an, cn, ln, ad, cd, ld, h1, h2, h3, h4, h5, h6, h7, r1, r2, h8⟩ := h
  exact ⟨an, cn, ln, ad, cd, ld, h1, h2, h3, h4, h5, h6, h7, rd_box r1 hb hp hq hr _ _ _, rd_box r2 hb hp hq hr _ _ _, h8⟩
theorem Order_q2 {L : Nat} {x1 y1 z1 x2 y2 z2 : Value} {s1 s2 : Bool} {n1 d1 n2 d2 : Nat} (w : World) (hA : QL L w x1 y1 z1 s1 n1 d1) (hB : QL L w x2 y2 z2 s2 n2 d2) (h0 : L ≤ 35184372088000) (h00 : L ≤ 35184372088000) (h1 : 0 < d1) (h2 : 0 < d2) :
    Calls Tryz.prog 43 #[.agg #[x1, y1, z1], .agg #[x2, y2, z2]] w fun e w' => e = .returned (.tuple #[.int .i64 (ordV (s1 && !decide (n1 = 0)) (s2 && !decide (n2 = 0)) (n1 * d2) (n2 * d1)), .int .i64 0]) ∧ Keep w w' := by
  obtain ⟨a, ca, la, b, cb, lb, rfl, rfl, rfl, p1, p2, p3, p4, p5, p6, p7, p8, rfl, rfl⟩ := hA
  obtain ⟨c, cc, lc, d, cd, ld, rfl, rfl, rfl, q1, q2, q3, q4, q5, q6, q7, q8, rfl, rfl⟩ := hB
  exact Order_some s1 s2 a b c d ca cb cc cd la lb lc ld w ⟨p1, p2, by omega, by omega, p5, p6, p7, p8⟩ ⟨q1, q2, by omega, by omega, q5, q6, q7, q8⟩ (by omega) (by omega)
/-- What Order says of a neighbour. -/
theorem ord_gd {s : Bool} {rn rd b c : Nat} {cv : Int} (h : GdN s rn rd b c) (hcv : ordV (false && !decide (awN s rn rd b = 0)) (false && !decide (awN s rn rd c = 0)) (awN s rn rd b * awD s rn rd c) (awN s rn rd c * awD s rn rd b) = cv) : (cv = 0 ∧ b % 2 = 0) ∨ cv = -1 := by
  obtain ⟨h1, h2⟩ := h
  simp only [Bool.false_and] at hcv
  unfold ordV at hcv
  simp only [bne_self_eq_false, Bool.false_eq_true, if_false] at hcv
  unfold cmpN at hcv
  generalize awN s rn rd b * awD s rn rd c = A at *
  generalize awN s rn rd c * awD s rn rd b = B at *
  by_cases c1 : A < B
  · right
    rw [← hcv]
    simp [c1]
  · left
    refine ⟨?_, h2 (by omega)⟩
    rw [← hcv]
    have : A = B := by omega
    simp [this]
/-- What a neighbour's distance is, in its variable. -/
def C24 (L : Nat) (rs : Bool) (rn rd c : Nat) (q : Bool) (wr : World) (s18 s19 : Value) (wx : World) : Prop :=
  ∃ g18 s' a1 n1 c1 a2 n2 c2, s18 = .pointer (some ⟨g18, 0, none⟩) ∧ s19 = .bool (!q) ∧ Box wx g18 (.bool s') (.slice a1 n1 c1) (.slice a2 n2 c2) ∧ Keep wr wx ∧ (q = false → s' = false ∧ QL (L + 41) wx (.bool false) (.slice a1 n1 c1) (.slice a2 n2 c2) false (awN rs rn rd c) (awD rs rn rd c))
theorem c24_new {L : Nat} {rs : Bool} {rn rd c : Nat} {q : Bool} {wr wC : World} {s' : Bool} {a1 a2 : Option Addr} {n1 c1 n2 c2 : Nat} (k : Keep wr wC) (h : q = false → s' = false ∧ QL (L + 41) wC (.bool false) (.slice a1 n1 c1) (.slice a2 n2 c2) false (awN rs rn rd c) (awD rs rn rd c)) :
    C24 L rs rn rd c q wr (.pointer (some ⟨wC.heap.size, 0, none⟩)) (.bool (!q)) (wC.alloc (.cells #[.bool s', .slice a1 n1 c1, .slice a2 n2 c2] 54)) :=
  ⟨_, _, _, _, _, _, _, _, rfl, rfl, Box.new _ _ _ _, k.alloc _, fun hq => ⟨(h hq).1, (h hq).2.keep ((Keep.refl _).alloc _)⟩⟩
theorem c24_set {L : Nat} {rs : Bool} {rn rd c : Nat} {q : Bool} {wr wC : World} {s' : Bool} {a1 a2 : Option Addr} {n1 c1 n2 c2 : Nat} (k : Keep wr wC) (bx : Box wC wr.heap.size (.bool false) (.slice none 0 0) (.slice none 0 0)) (h : q = false → s' = false ∧ QL (L + 41) wC (.bool false) (.slice a1 n1 c1) (.slice a2 n2 c2) false (awN rs rn rd c) (awD rs rn rd c)) :
    C24 L rs rn rd c q wr (.pointer (some ⟨wr.heap.size, 0, none⟩)) (.bool (!q)) (((wC.setCell ⟨wr.heap.size, 0, none⟩ (.bool s')).setCell ⟨wr.heap.size, 1, none⟩ (.slice a1 n1 c1)).setCell ⟨wr.heap.size, 2, none⟩ (.slice a2 n2 c2)) :=
  ⟨_, _, _, _, _, _, _, _, rfl, rfl, ((bx.set0 _).set1 _).set2 _, ((k.setCell (p := ⟨wr.heap.size, 0, none⟩) (Nat.le_refl _) _).setCell (p := ⟨wr.heap.size, 1, none⟩) (Nat.le_refl _) _).setCell (p := ⟨wr.heap.size, 2, none⟩) (Nat.le_refl _) _, fun hq => ⟨(h hq).1, (h hq).2.box3 bx (by simp) (by simp) (by simp) _ _ _⟩⟩
theorem ord_self (b : Nat) (h : ¬ Fo.isNaN b) : FloatKind.f64.format.order b b = some .eq := by
  refine Eq.trans (Fo.order_ky b b h h) ?_
  rw [Int.compare_eq_eq.2 rfl]
set_option maxRecDepth 100000 in
set_option maxHeartbeats 4000000 in
theorem near_some (neg : Bool) (a b : Option Addr) (ca cb : Nat) (la lb : List Nat) (w : World) (hca : la.length ≤ ca) (hcb : lb.length ≤ cb) (hla : la.length ≤ 35184372087808) (hlb : lb.length ≤ 35184372087808) (hra : Rd w a la) (hrb : Rd w b lb) (hma : Lim la) (hmb : Lim lb) (h0 : val lb ≠ 0) :
    Calls Tryz.prog 10 #[.bool neg, .slice a la.length ca, .slice b lb.length cb] w fun e w' => e = .returned (.bool true) ∧ Keep w w' := by
  have hB := fun wx => begins_any wx
  have hOv := fun wx (kx : Keep w wx) => Over_form neg a b ca cb la lb wx hca hcb (by omega) (by omega) (hra.keep kx) (hrb.keep kx) hma hmb
  have hRE : RE (val lb) = 0 := by unfold RE; rw [if_neg h0]
  have hrd : 0 < RD (val la) (val lb) := by unfold RD; rw [if_neg h0]; exact low_pos (by omega)
  have hrs : RN (val la) (val lb) = 0 → RS neg (val la) (val lb) = false := by
    intro h
    unfold RN at h
    rw [if_neg h0] at h
    unfold RS
    rw [if_pos]
    right
    have hg : 0 < Nat.gcd (val la) (val lb) := Nat.gcd_pos_of_pos_right _ (by omega)
    have e1 : val la = val la / Nat.gcd (val la) (val lb) * Nat.gcd (val la) (val lb) := (Nat.div_mul_cancel (Nat.gcd_dvd_left _ _)).symm
    rw [e1, h, Nat.zero_mul]
  obtain ⟨L, hL⟩ : ∃ L, L = 35184372087808 := ⟨_, rfl⟩
  have bA : val la < 4294967296 ^ L := Nat.lt_of_lt_of_le (val_lt hma) (Nat.pow_le_pow_right (by omega) (by omega))
  have bB : val lb < 4294967296 ^ L := Nat.lt_of_lt_of_le (val_lt hmb) (Nat.pow_le_pow_right (by omega) (by omega))
  clear h0
  go_enter Tryz.func10, Tryz.ntmps10
  go_wp2_with fail
  refine (hB _).mono ?_
  rintro e w1 ⟨rfl, k1⟩
  go_wp2_with fail
  refine (hOv _ k1).mono ?_
  rintro e w2 hC
  obtain ⟨X0, Y0, Z0, rfl, hql, k2⟩ := hC.ql bA bB
  rw [hRE]
  generalize RS neg (val la) (val lb) = rs at *
  generalize RN (val la) (val lb) = rn at *
  generalize RD (val la) (val lb) = rd at *
  clear hC hOv hRE bA bB hra hrb hma hmb
  have HQ := hql
  obtain ⟨an, cn, ln, ad, cd, ld, rfl, rfl, rfl, g1, g2, g3, g4, r1, r2, i1, i2, e1, e2⟩ := hql
  obtain ⟨w3, hw3⟩ : ∃ w3, w2.alloc (.cells #[.bool rs, .slice an ln.length cn, .slice ad ld.length cd] 54) = w3 := ⟨_, rfl⟩
  have k3 : Keep w2 w3 := by rw [← hw3]; exact (Keep.refl w2).alloc _
  have B3 : Box w3 w2.heap.size (.bool rs) (.slice an ln.length cn) (.slice ad ld.length cd) := by rw [← hw3]; exact Box.new w2 _ _ _
  obtain ⟨x0, x1, x2⟩ := B3.cells
  have hN := pN_some rs (.slice an ln.length cn) (.slice ad ld.length cd) rn rd L w3 ⟨an, cn, ln, rfl, g1, g3, r1.keep k3, i1, e1⟩ ⟨ad, cd, ld, rfl, g2, g4, r2.keep k3, i2, e2⟩ (by omega) hrd
  have K3 : Hid (Keep w w3) := (k1.trans k2).trans k3
  have HQ3 : Hid (QL L w3 (.bool rs) (.slice an ln.length cn) (.slice ad ld.length cd) rs rn rd) := HQ.keep k3
  have HB3 : Hid (Box w3 w2.heap.size (.bool rs) (.slice an ln.length cn) (.slice ad ld.length cd)) := B3
  have hg9 := fun y wx => f64bits y wx
  clear HQ k1 k2 k3 r1 r2 i1 i2 e1 e2 g1 g2 g3 g4 B3 hB
  go_wp2_with fail
  refine hN.mono ?_
  rintro e w4 ⟨xx, rfl, p1, p2, k4⟩
  obtain ⟨x, hxx, hNB⟩ : ∃ x, xx = x + sg rs ∧ NB rn rd x := by
    rcases Nat.eq_zero_or_pos rn with c | c
    · refine ⟨0, ?_, fun _ => rfl, fun h => by omega⟩
      rw [p1 c, hrs c]; rfl
    · obtain ⟨E, hE⟩ := exE c hrd
      refine ⟨_, p2 c E hE, fun h => by omega, fun _ E' hE' => ?_⟩
      rw [isE_one hrd hE' hE]
      rfl
  have hle := hNB.le hrd
  have hsg : sg rs ≤ 9223372036854775808 := by cases rs <;> decide
  have hsg2 : sg rs % 9223372036854775808 = 0 := by cases rs <;> decide
  have hbl : xx < 18446744073709551616 := by omega
  have hfa := field_and xx hbl
  have hla := low_and xx hbl
  have hns := not_sign xx hbl
  have hmod : xx % 9223372036854775808 = x := by
    rw [hxx]
    revert hsg2
    cases rs <;> (unfold sg; simp; omega)
  rw [hmod] at hns
  have hKx : Hid (Keep w3 w4) := k4
  clear hN p1 p2 k4
  have h34 := f64bits xx
  by_cases hinf : x = 9218868437227405312
  · have hf2 : xx / 4503599627370496 % 2048 = 2047 := by
      rw [hxx, hinf]
      cases rs <;> decide
    have hor := ord_self xx (by unfold Fo.isNaN; rw [hmod, hinf]; omega)
    rw [hf2] at hfa
    clear hg9 hinf hxx hNB hle hns hla
    go_wp2_with fail
    go_ret
    exact ⟨rfl, K3.out.trans hKx.out⟩
  · have hfin : x < 9218868437227405312 := by omega
    obtain ⟨F, hF⟩ : ∃ F, xx / 4503599627370496 % 2048 = F := ⟨_, rfl⟩
    have hF2 : ((F : Int) == 2047) = false := by
      rw [beq_eq_false_iff_ne]
      have : F < 2047 := by
        rw [← hF, hxx]
        revert hsg2
        cases rs <;> (unfold sg; simp; omega)
      omega
    rw [hF] at hfa
    have hqb := (bits_of x rs hfin).1
    rw [← hxx] at hqb
    have hAw := away_ok xx hbl w4 hqb (HQ3.out.keep hKx.out) (by omega) hrd
    have HNb : Hid (Nbr rs rn rd xx (xx + 1)) := by
      have := nbr_up (s := rs) hrd hNB hfin
      rw [← hxx] at this
      exact this
    have hB4 := HB3.out.keep hKx.out
    obtain ⟨y0, y1, y2⟩ := hB4.cells
    have hw1 : IntKind.u64.wrap ((xx : Int) + 1) = ((xx + 1 : Nat) : Int) := by rw [IntKind.wrap_u64]; omega
    have HXX : Hid (xx = x + sg rs ∧ xx < 18446744073709551616) := ⟨hxx, hbl⟩
    have HQB : Hid (qB xx = false) := hqb
    have HNB : Hid (NB rn rd x) := hNB
    clear hF x0 x1 x2 hg9 hxx hNB hmod hinf hsg hsg2 hle
    go_wp2_with fail
    refine hAw.mono ?_
    rintro e w5 ⟨yd, zd, rfl, hqd, k5⟩
    have HQD := hqd
    obtain ⟨dn, dc, dl1, dd, dcc, dl2, -, rfl, rfl, -⟩ := hqd
    obtain ⟨w6, hw6⟩ : ∃ w6, w5.alloc (.cells #[.bool false, .slice dn dl1.length dc, .slice dd dl2.length dcc] 54) = w6 := ⟨_, rfl⟩
    have k6 : Keep w5 w6 := by rw [← hw6]; exact (Keep.refl w5).alloc _
    have B6 : Box w6 w5.heap.size (.bool false) (.slice dn dl1.length dc) (.slice dd dl2.length dcc) := by rw [← hw6]; exact Box.new w5 _ _ _
    have k36 : Keep w3 w6 := (hKx.out.trans k5).trans k6
    have K6 : Hid (Keep w w6) := K3.out.trans k36
    have HQ6 : Hid (QL L w6 (.bool rs) (.slice an ln.length cn) (.slice ad ld.length cd) rs rn rd) := HQ3.out.keep k36
    have HD6 : Hid (QL (L + 41) w6 (.bool false) (.slice dn dl1.length dc) (.slice dd dl2.length dcc) false (awN rs rn rd xx) (awD rs rn rd xx)) := HQD.keep k6
    have HB6 : Hid (Box w6 w2.heap.size (.bool rs) (.slice an ln.length cn) (.slice ad ld.length cd) ∧ Box w6 w5.heap.size (.bool false) (.slice dn dl1.length dc) (.slice dd dl2.length dcc)) := ⟨HB3.out.keep k36, B6⟩
    clear HQD hAw k5 k6 k36 B6 hB4 y0 y1 y2 HQ3 HB3 hKx K3
    have hcs : (0 < x ∧ ∃ N2, IntKind.u64.wrap ((xx : Int) - 1) = ((N2 : Nat) : Int) ∧ Nbr rs rn rd xx N2) ∨ (¬ 0 < x ∧ ∃ N2, bits .or .u64 (bits .xor .u64 (xx : Int) 9223372036854775808) 1 = ((N2 : Nat) : Int) ∧ Nbr rs rn rd xx N2) := by
      by_cases hx0 : 0 < x
      · left
        refine ⟨hx0, xx - 1, ?_, ?_⟩
        · have := HXX.out
          rw [IntKind.wrap_u64]
          omega
        · have := nbr_down (s := rs) hrd HNB.out hfin hx0
          rw [← HXX.out.1] at this
          exact this
      · right
        have e0 : x = 0 := by omega
        have e1 := HXX.out.1
        rw [e0] at e1
        refine ⟨hx0, 1 + sg (!rs), ?_, ?_⟩
        · rw [e1]
          cases rs <;> decide
        · rw [e1]
          exact nbr_other hrd
    go_upto_if 73 with fail
    clear hfin hbl
    go_cut [16] from 73 to 84 (fun s16 wx => ∃ g' c7 N2, s16 = .slice (some ⟨g', 0, none⟩) 2 c7 ∧ wx.cell? ⟨g', 0, none⟩ = some (.int .u64 ((xx + 1 : Nat) : Int)) ∧ wx.cell? ⟨g', 1, none⟩ = some (.int .u64 ((N2 : Nat) : Int)) ∧ Nbr rs rn rd xx N2 ∧ Keep w6 wx)
    case first =>
      rcases hcs with ⟨hx0, N2, hw2, hN2⟩ | ⟨hx0, N2, hw2, hN2⟩
      all_goals
        have HN2 : Hid (Nbr rs rn rd xx N2) := hN2
        clear hN2
        go_wp2_with (at_builtin; refine wpList_app26 rfl _ _ rfl ((xx + 1 : Nat) : Int) ((N2 : Nat) : Int) w6.heap.size (w6.heap.size + 1) ?_ ?_ ?_ ?_ w6 ?_ ?_ ?_; rotate_left 6; intro g' c7 w7 n0 n1 k7)
        rotate_left 1
        · rfl
        · rfl
        · rw [((Keep.refl _).alloc _).block w6.heap.size (by simp)]
          exact heap_alloc_new w6 _
        · have q := heap_alloc_new (w6.alloc (Obj.cells #[Value.int IntKind.u64 ((xx : Int) + 1)] 26)) (Obj.cells #[Value.int IntKind.u64 (N2 : Nat)] 26)
          rw [show (w6.alloc (Obj.cells #[Value.int IntKind.u64 ((xx : Int) + 1)] 26)).heap.size = w6.heap.size + 1 by simp] at q
          first
            | rw [cell_of_row _ _ 0 _ 26 (0, 0) q]; rfl
            | (rw [hw2]; rw [cell_of_row _ _ 0 _ 26 (0, 0) q]; rfl)
        · exact ((Keep.refl w6).alloc _).alloc _
        · exact Nat.le_refl _
        go_meet
        case rel => exact ⟨_, _, _, rfl, n0, n1, HN2.out, k7⟩
    case rest =>
      obtain ⟨g', c7, N2, rfl, n0, n1, hN2, k7⟩ := hcut
      clear hcs
      obtain ⟨w7, rfl⟩ : ∃ w7, w7 = wc := ⟨_, rfl⟩
      have HC : Hid (∀ k : Nat, k < 2 → ∃ c : Nat, w7.cell? ⟨g', k, none⟩ = some (.int .u64 (c : Nat)) ∧ Nbr rs rn rd xx c) := by
        intro k hk
        obtain rfl | rfl : k = 0 ∨ k = 1 := by omega
        · exact ⟨_, n0, HNb.out⟩
        · exact ⟨_, n1, hN2⟩
      have K7 : Hid (Keep w w7) := K6.out.trans k7
      have HQ7 : Hid (QL L w7 (.bool rs) (.slice an ln.length cn) (.slice ad ld.length cd) rs rn rd) := HQ6.out.keep k7
      have HD7 : Hid (QL (L + 41) w7 (.bool false) (.slice dn dl1.length dc) (.slice dd dl2.length dcc) false (awN rs rn rd xx) (awD rs rn rd xx)) := HD6.out.keep k7
      have HB7 : Hid (Box w7 w2.heap.size (.bool rs) (.slice an ln.length cn) (.slice ad ld.length cd) ∧ Box w7 w5.heap.size (.bool false) (.slice dn dl1.length dc) (.slice dd dl2.length dcc)) := ⟨HB6.out.1.keep k7, HB6.out.2.keep k7⟩
      clear n0 n1 k7 K6 HQ6 HD6 HB6 HNb hN2
      go_wp2_with fail
      go_loopw [17] (fun i wr => ∃ k : Nat, k ≤ 2 ∧ i = .int .i64 k ∧ Keep w7 wr) (fun i _ => 2 - (intOf i).toNat)
      case atStart => exact ⟨0, Nat.zero_le _, rfl, Keep.refl _⟩
      case round =>
        obtain ⟨k, hk, rfl, kr⟩ := hrel
        by_cases hk2 : k < 2
        · obtain ⟨c, hcell, hcb, hcq⟩ := HC.out k hk2
          have h19 := fun wx => f64from c wx
          have hcc := kr.cell hcell
          have hkI : (k : Int) < 2 := by omega
          obtain ⟨x0, x1, x2⟩ := (HB7.out.1.keep kr).cells
          have hgl : g' < wr.heap.size := block_lt_of_cell hcc
          have hwl : w2.heap.size < wr.heap.size := block_lt_of_cell x0
          have hA := fun wx (kx : Keep wr wx) => away_any c hcb wx (HQ7.out.keep (kr.trans kx)) (by omega) hrd
          have Hcq : Hid (qB c = true ∨ qB c = false ∧ GdN rs rn rd xx c) := hcq
          obtain ⟨q, hq⟩ : ∃ q, qB c = q := ⟨_, rfl⟩
          rw [hq] at hA
          have Hq : Hid (qB c = q) := hq
          have HKR : Hid (Keep w7 wr) := kr
          clear HC hcell hcq hq kr
          go_upto_region 24 with fail
          have hA' : Hid _ := hA
          go_cut [18, 19] from 89 to 98 (fun s18 s19 wx => C24 L rs rn rd c q wr s18 s19 wx)
          case first =>
            clear Hcq Hq HKR HQ7 HD7 HB7 K7 hA' hla hns hfa hF2 hw1 HXX HNB HQB hrd
            go_region_with (go_at_call 42; refine (hA _ ?_).mono ?_; (first | exact (Keep.refl _).drew | exact ((Keep.refl _).drew).alloc _ | exact Keep.refl _); rintro e wC ⟨s', a1, n1, c1, a2, n2, c2, rfl, kC, hQf⟩; have HQf : Hid _ := hQf; clear hQf; first | (have KC : Hid (Keep wr wC) := (Keep.refl wr).drew.trans kC; clear kC) | (have bx : Box wC wr.heap.size (.bool false) (.slice none 0 0) (.slice none 0 0) := (Box.new wr.drew (.bool false) (.slice none 0 0) (.slice none 0 0)).keep kC; obtain ⟨z0, z1, z2⟩ := bx.cells; have f0 := bx.free 0; have f1 := bx.free 1; have f2 := bx.free 2; have bx' : Hid _ := bx; have KC : Hid (Keep wr wC) := ((Keep.refl wr).drew.alloc _).trans kC; clear bx kC))
            all_goals
              go_wp2_with fail
              go_meet
              first
                | exact c24_new KC.out HQf.out
                | exact c24_set KC.out bx'.out HQf.out
          case rest =>
            obtain ⟨g18, s', a1, n1, c1, a2, n2, c2, rfl, rfl, B18, k18, hQf⟩ := hcut
            clear x0 x1 x2 hA hcc hgl hwl
            obtain ⟨u0, u1, u2⟩ := B18.cells
            obtain ⟨v0, v1, v2⟩ := ((HB7.out.2.keep HKR.out).keep k18).cells
            cases q with
            | true =>
              clear hQf
              go_wp2_with fail
              go_roundw
              case rel => exact ⟨k + 1, by omega, by go_num, HKR.out.trans k18⟩
              case measure => simp [intOf]; omega
            | false =>
              obtain ⟨hs0, hQg⟩ := hQf rfl
              subst hs0
              clear hQf
              have hgd : GdN rs rn rd xx c := by
                rcases Hcq.out with h | h
                · rw [Hq.out] at h; cases h
                · exact h.2
              have hdd := (aw_dl rs rn rd xx HQB.out hrd).2
              have hdc := (aw_dl rs rn rd c Hq.out hrd).2
              have hO := Order_q2 wc ((HD7.out.keep HKR.out).keep k18) hQg (by omega) (by omega) hdd hdc
              obtain ⟨cv, hcv⟩ : ∃ cv : Int, ordV (false && !decide (awN rs rn rd xx = 0)) (false && !decide (awN rs rn rd c = 0)) (awN rs rn rd xx * awD rs rn rd c) (awN rs rn rd c * awD rs rn rd xx) = cv := ⟨_, rfl⟩
              rw [hcv] at hO
              have hcv2 := ord_gd hgd hcv
              have K9 : Hid (Keep w7 wc) := HKR.out.trans k18
              clear hQg hgd hdd hdc hcv k18 B18
              rcases hcv2 with ⟨h1, h2⟩ | h1
              · have hl2 := hla
                rw [h2] at hl2
                subst h1
                clear h2 hla
                go_wp2_with fail
                refine hO.mono ?_
                rintro e w9 ⟨rfl, k9⟩
                go_wp2_with fail
                go_roundw
                case rel => exact ⟨k + 1, by omega, by go_num, K9.out.trans k9⟩
                case measure => simp [intOf]; omega
              · subst h1
                go_wp2_with fail
                refine hO.mono ?_
                rintro e w9 ⟨rfl, k9⟩
                go_wp2_with fail
                go_roundw
                case rel => exact ⟨k + 1, by omega, by go_num, K9.out.trans k9⟩
                case measure => simp [intOf]; omega
        · have hkI : ¬ (k : Int) < 2 := by omega
          go_wp2_with fail
          go_ret
          exact ⟨rfl, K7.out.trans kr⟩
end Go.Proofs.YtpdjpjkieafnbaaGreatDoor.Li
