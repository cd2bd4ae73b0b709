import Derived.Test.YtpdjpjkieafnbaaGreatDoorH5
set_option linter.unusedVariables false
set_option linter.unusedSimpArgs false
namespace Go.Proofs.YtpdjpjkieafnbaaGreatDoor.Li
open Go.RowKit Lb Nr
set_option maxRecDepth 100000 in
set_option maxHeartbeats 2000000 in
theorem newScale_neg (e : Int) (t : Nat) (w : World) (he : -1900 ≤ e ∧ e ≤ 1900) (ht : t ≤ 16000) (ht0 : 0 < t) :
    Calls Tryz.prog 142 #[.int .i64 e, .int .i64 (-(t : Int))] w fun en w' => ∃ u1 u2, en = .returned (.agg #[u1, u2]) ∧ Lv w' u1 (1 * 2 ^ (e - 2).toNat) 2101 ∧ Lv w' u2 (10 ^ t * 2 ^ (-(e - 2)).toNat) 2101 ∧ Keep w w' := by
  have hF1 := fun wx => From_lv 1 wx (by omega)
  have hF10 := fun wx => From_lv 10 wx (by omega)
  have hP := fun v wx (h : Lv wx v 10 2) => Pow10_lv v t wx h ht
  have hS := fun v1 v2 wx h1 h2 => scaled_lv v1 v2 1 (10 ^ t) 2001 (e - 2) wx h1 h2 (by omega) (by omega)
  have d0 : decide (-(t : Int) < 0) = true := decide_eq_true (by omega)
  have we : IntKind.i64.wrap (e - 2) = e - 2 := by rw [IntWalk.i64_left]; exact IntWalk.wrap64_in _ (by omega)
  have e1 := he.1
  have e2 := he.2
  clear he
  generalize 10 ^ t = N at *
  generalize hA : 1 * 2 ^ (e - 2).toNat = A at *
  generalize hB : N * 2 ^ (-(e - 2)).toNat = B at *
  clear hA hB
  obtain ⟨w0, hw0⟩ : ∃ w0, w.alloc (.cells #[.slice none 0 0, .slice none 0 0] 173) = w0 := ⟨_, rfl⟩
  have S0 : Hid (Sc w0 w.heap.size (.slice none 0 0) (.slice none 0 0)) := by unfold Hid; rw [← hw0]; exact Sc.new w _ _
  have K0 : Hid (Keep w w0) := by unfold Hid; rw [← hw0]; exact (Keep.refl w).alloc _
  have t1 : True := trivial
  go_enter Tryz.func142, Tryz.ntmps142
  go_wp2_with fail
  refine (hF1 _).mono ?_
  rintro en w1 ⟨va, rfl, hva, k1⟩
  go_wp2_with fail
  refine (hF1 _).mono ?_
  rintro en w2 ⟨vb, rfl, hvb, k2⟩
  go_wp2_with fail
  refine (hF10 _).mono ?_
  rintro en w3 ⟨vc, rfl, hvc, k3⟩
  go_wp2_with fail
  refine (hP vc _ hvc).mono ?_
  rintro en w4 ⟨vd, rfl, hvd, k4⟩
  go_wp2_with fail
  refine (hS va vd _ ((((hva.keep k2).keep k3).keep k4).more (by omega)) hvd).mono ?_
  rintro en w5 ⟨u1, u2, rfl, hu1, hu2, k5⟩
  obtain ⟨a1, l1, c1, rfl⟩ := hu1.shape
  obtain ⟨a2, l2, c2, rfl⟩ := hu2.shape
  have KK : Keep w0 w5 := (((k1.trans k2).trans k3).trans k4).trans k5
  have S5 := S0.out.keep KK
  obtain ⟨c0, c1', f0, f1⟩ := S5.cells
  have HS5 : Hid (Sc w5 w.heap.size (.slice none 0 0) (.slice none 0 0)) := S5
  have HU1 : Hid (Lv w5 (.slice a1 l1 c1) A 2101) := hu1
  have HU2 : Hid (Lv w5 (.slice a2 l2 c2) B 2101) := hu2
  have HK : Hid (Keep w w5) := K0.out.trans KK
  clear S5 hu1 hu2 KK k1 k2 k3 k4 k5
  go_wp2_with fail
  refine bodyPost_ret (results_sc rfl _ _ w.heap.size _ _ rfl (HS5.out.set _ _)) rfl ?_
  exact ⟨_, _, rfl, HS5.out.lv (by simp) (by simp) HU1.out _ _, HS5.out.lv (by simp) (by simp) HU2.out _ _, (HK.out.setCell (p := ⟨w.heap.size, 0, none⟩) (Nat.le_refl _) _).setCell (p := ⟨w.heap.size, 1, none⟩) (Nat.le_refl _) _⟩
/-- The scale of a number's quarters, as a quotient. -/
def sNum (e t : Int) : Nat := 10 ^ t.toNat * 2 ^ (e - 2).toNat
def sDen (e t : Int) : Nat := 10 ^ (-t).toNat * 2 ^ (-(e - 2)).toNat
theorem newScale_any (e t : Int) (w : World) (he : -1900 ≤ e ∧ e ≤ 1900) (ht : -16000 ≤ t ∧ t ≤ 16000) :
    Calls Tryz.prog 142 #[.int .i64 e, .int .i64 t] w fun en w' => ∃ u1 u2, en = .returned (.agg #[u1, u2]) ∧ Lv w' u1 (sNum e t) 2101 ∧ Lv w' u2 (sDen e t) 2101 ∧ Keep w w' := by
  by_cases h : 0 ≤ t
  · obtain ⟨n, rfl⟩ : ∃ n : Nat, t = (n : Int) := ⟨t.toNat, by omega⟩
    have := newScale_pos e n w he (by omega)
    unfold sNum sDen
    rw [Int.toNat_natCast, show (-(n : Int)).toNat = 0 by omega, Nat.pow_zero]
    exact this
  · obtain ⟨n, rfl⟩ : ∃ n : Nat, t = -(n : Int) := ⟨(-t).toNat, by omega⟩
    have := newScale_neg e n w he (by omega) (by omega)
    unfold sNum sDen
    rw [show (-(n : Int)).toNat = 0 by omega, Int.neg_neg, Int.toNat_natCast, Nat.pow_zero]
    exact this
end Go.Proofs.YtpdjpjkieafnbaaGreatDoor.Li
set_option linter.unusedVariables false
set_option linter.unusedSimpArgs false
namespace Go.Proofs.YtpdjpjkieafnbaaGreatDoor.Li
open Go.RowKit Lb Nr
/-- A number by the scale, rounded down; is it just that? -/
def ofQ (e t : Int) (n : Nat) : Nat := n * sNum e t / sDen e t
def ofX (e t : Int) (n : Nat) : Bool := decide (n * sNum e t % sDen e t = 0)
theorem sDen_pos (e t : Int) : 0 < sDen e t := Nat.mul_pos (Nat.pow_pos (by omega)) (Nat.pow_pos (by omega))
theorem sNum_pos (e t : Int) : 0 < sNum e t := Nat.mul_pos (Nat.pow_pos (by omega)) (Nat.pow_pos (by omega))
theorem room2 {n N K : Nat} (hn : n < 18446744073709551616) (hN : N < 4294967296 ^ K) (hp : 0 < n) : n * N < 4294967296 ^ (K + 2) := by
  rw [Nat.pow_add, Nat.mul_comm]
  refine Nat.lt_of_lt_of_le (Nat.mul_lt_mul_of_pos_right hN hp) (Nat.mul_le_mul_left _ ?_)
  show n ≤ 18446744073709551616
  omega
theorem room2' {n N : Nat} (hn : n < 18446744073709551616) (K : Nat) (hN : N < 4294967296 ^ K) (hp : 0 < n) (K2 : Nat) (hK : K2 = K + 2) : n * N < 4294967296 ^ K2 := by
  rw [hK]
  exact room2 hn hN hp
theorem of_sc (e t : Int) (n : Nat) (u1 u2 : Value) (w : World) (h1 : Lv w u1 (sNum e t) 2101) (h2 : Lv w u2 (sDen e t) 2101) (hp : 0 < n) (hn : n < 18446744073709551616) (hq : ofQ e t n < 18446744073709551616) :
    Calls Tryz.prog 144 #[.agg #[u1, u2], .int .u64 (n : Int)] w fun r w' => r = .returned (.tuple #[.int .u64 (ofQ e t n : Nat), .bool (ofX e t n)]) ∧ Keep w w' :=
  of_any u1 u2 (sNum e t) (sDen e t) 2101 n w h1 h2 (by omega) (sDen_pos e t) hn hq 2103 (by omega) (by omega) (by omega) (room2' hn 2101 h1.lt hp 2103 rfl)
/-- The lower border's quarters. -/
def bDn (m : Nat) (e : Int) : Nat := 4 * m - 2 + (if m = 4503599627370496 ∧ -1074 < e then 1 else 0)
def bLow (m : Nat) (e t : Int) : Nat := ofQ e t (bDn m e) + (if !ofX e t (bDn m e) || !decide (m % 2 = 0) then 1 else 0)
def bHi (m : Nat) (e t : Int) : Nat := ofQ e t (4 * m + 2) - (if ofX e t (4 * m + 2) && !decide (m % 2 = 0) then 1 else 0)
set_option maxRecDepth 100000 in
set_option maxHeartbeats 1000000 in
theorem borders_any (m : Nat) (e t : Int) (u1 u2 : Value) (w : World) (h1 : Lv w u1 (sNum e t) 2101) (h2 : Lv w u2 (sDen e t) 2101) (hm0 : 0 < m) (hm : m < 9007199254740992) (he : -1074 ≤ e ∧ e ≤ 971) (hq : ofQ e t (4 * m + 2) < 9223372036854775808) (hq1 : 0 < ofQ e t (4 * m + 2)) (hq2 : ofQ e t (bDn m e) ≤ ofQ e t (4 * m + 2)) :
    Calls Tryz.prog 143 #[.agg #[.int .i64 52, .int .i64 2047, .int .i64 (-1074)], .int .u64 (m : Int), .int .i64 e, .agg #[u1, u2]] w fun r w' => r = .returned (.tuple #[.int .u64 (bLow m e t : Nat), .int .u64 (bHi m e t : Nat)]) ∧ Keep w w' := by
  have hO1 := fun wx (k : Keep w wx) => of_sc e t (bDn m e) u1 u2 wx (h1.keep k) (h2.keep k) (by unfold bDn; split <;> omega) (by unfold bDn; split <;> omega) (by omega)
  have hO2 := fun wx (k : Keep w wx) => of_sc e t (4 * m + 2) u1 u2 wx (h1.keep k) (h2.keep k) (by omega) (by omega) (by omega)
  obtain ⟨a1, l1, c1, rfl⟩ := h1.shape
  obtain ⟨a2, l2, c2, rfl⟩ := h2.shape
  have hLo : Hid (bLow m e t = ofQ e t (bDn m e) + (if !ofX e t (bDn m e) || !decide (m % 2 = 0) then 1 else 0)) := rfl
  have hHi : Hid (bHi m e t = ofQ e t (4 * m + 2) - (if ofX e t (4 * m + 2) && !decide (m % 2 = 0) then 1 else 0)) := rfl
  have hDn : bDn m e = 4 * m - 2 + (if m = 4503599627370496 ∧ -1074 < e then 1 else 0) := rfl
  generalize bLow m e t = BL at *
  generalize bHi m e t = BH at *
  generalize bDn m e = dn at *
  generalize ofQ e t dn = qa at *
  generalize ofX e t dn = xa at *
  generalize ofQ e t (4 * m + 2) = qb at *
  generalize ofX e t (4 * m + 2) = xb at *
  obtain ⟨ev, hev⟩ : ∃ b, decide (m % 2 = 0) = b := ⟨_, rfl⟩
  rw [hev] at hLo hHi
  have hevI : ((((m % 2 : Nat) : Int)) == 0) = ev := by
    rw [← hev]
    by_cases c : m % 2 = 0
    · rw [c]; rfl
    · rw [decide_eq_false c, beq_eq_false_iff_ne]; omega
  have hrem : Int.tmod (m : Int) 2 = ((m % 2 : Nat) : Int) := by rw [Int.ofNat_tmod]; rfl
  generalize m % 2 = r2 at *
  have hw1 : IntKind.u64.wrap (4 * (m : Int)) = ((4 * m : Nat) : Int) := by rw [IntKind.wrap_u64]; omega
  have hw2 : IntKind.u64.wrap (((4 * m : Nat) : Int) - 2) = ((4 * m - 2 : Nat) : Int) := by rw [IntKind.wrap_u64]; omega
  have hw3 : IntKind.u64.wrap (((4 * m : Nat) : Int) + 2) = ((4 * m + 2 : Nat) : Int) := by rw [IntKind.wrap_u64]; omega
  have hw4 : IntKind.u64.wrap (((4 * m - 2 : Nat) : Int) + 1) = ((4 * m - 2 + 1 : Nat) : Int) := by rw [IntKind.wrap_u64]; omega
  have hw5 : IntKind.u64.wrap ((qa : Int) + 1) = ((qa + 1 : Nat) : Int) := by rw [IntKind.wrap_u64]; omega
  have hw6 : IntKind.u64.wrap ((qb : Int) - 1) = ((qb - 1 : Nat) : Int) := by rw [IntKind.wrap_u64]; omega
  have HL : Hid (BL = if (!xa || !ev) = true then qa + 1 else qa) := by unfold Hid; rw [hLo.out]; split <;> rfl
  have HH : Hid (BH = if (xb && !ev) = true then qb - 1 else qb) := by unfold Hid; rw [hHi.out]; split <;> rfl
  replace hDn : dn = if m = 4503599627370496 ∧ -1074 < e then 4 * m - 2 + 1 else 4 * m - 2 := by rw [hDn]; split <;> rfl
  generalize qa + 1 = qa1 at *
  generalize qb - 1 = qb1 at *
  generalize 4 * m + 2 = y at *
  generalize 4 * m - 2 + 1 = z1 at *
  generalize 4 * m - 2 = z at *
  generalize 4 * m = m4 at *
  clear hLo hHi hq hq1 hq2
  obtain ⟨w1, hw1'⟩ : ∃ w1, (w.alloc (.cells #[.int .i64 52, .int .i64 2047, .int .i64 (-1074)] 85)).alloc (.cells #[.slice a1 l1 c1, .slice a2 l2 c2] 173) = w1 := ⟨_, rfl⟩
  have k1 : Keep w w1 := by rw [← hw1']; exact ((Keep.refl w).alloc _).alloc _
  have F1 : Fm w1 w.heap.size := by rw [← hw1']; exact (Fm.new w).keep ((Keep.refl _).alloc _)
  have S1 : Sc w1 (w.heap.size + 1) (.slice a1 l1 c1) (.slice a2 l2 c2) := by
    rw [← hw1']
    have := Sc.new (w.alloc (.cells #[.int .i64 52, .int .i64 2047, .int .i64 (-1074)] 85)) (.slice a1 l1 c1) (.slice a2 l2 c2)
    rw [show (w.alloc (.cells #[.int .i64 52, .int .i64 2047, .int .i64 (-1074)] 85)).heap.size = w.heap.size + 1 by simp] at this
    exact this
  obtain ⟨f0, f1, f2⟩ := F1.cells
  obtain ⟨s0, s1, -, -⟩ := S1.cells
  have HS1 : Hid (Sc w1 (w.heap.size + 1) (.slice a1 l1 c1) (.slice a2 l2 c2)) := S1
  have HK1 : Hid (Keep w w1) := k1
  have HO1 : Hid (∀ wx, Keep w wx → Calls Tryz.prog 144 #[.agg #[.slice a1 l1 c1, .slice a2 l2 c2], .int .u64 (dn : Int)] wx fun r w' => r = .returned (.tuple #[.int .u64 (qa : Int), .bool xa]) ∧ Keep wx w') := hO1
  have HO2 : Hid (∀ wx, Keep w wx → Calls Tryz.prog 144 #[.agg #[.slice a1 l1 c1, .slice a2 l2 c2], .int .u64 (y : Int)] wx fun r w' => r = .returned (.tuple #[.int .u64 (qb : Int), .bool xb]) ∧ Keep wx w') := hO2
  clear F1 S1 k1 h1 h2 hO1 hO2 hev
  by_cases p1 : m = 4503599627370496
  · have b1 : ((m : Int) == 4503599627370496) = true := by rw [p1]; rfl
    by_cases p2 : -1074 < e
    · have b2 : decide ((-1074 : Int) < e) = true := decide_eq_true p2
      rw [if_pos ⟨p1, p2⟩] at hDn
      clear p1
      subst hDn
      clear hm hm0 he
      go_enter Tryz.func143, Tryz.ntmps143
      go_wp2_with fail
      refine (HO1.out _ HK1.out).mono ?_
      rintro r w2 ⟨rfl, k2⟩
      obtain ⟨r0, r1, -, -⟩ := (HS1.out.keep k2).cells
      have HK2 : Hid (Keep w w2) := HK1.out.trans k2
      clear k2
      go_wp2_with fail
      refine (HO2.out _ HK2.out).mono ?_
      rintro r w3 ⟨rfl, k3⟩
      have HK3 : Hid (Keep w w3) := HK2.out.trans k3
      clear k3
      cases xa <;> cases ev <;> cases xb <;> (go_wp2_with fail; go_ret2; exact ⟨by rw [HL.out, HH.out]; rfl, HK3.out⟩)
    · have b2 : decide ((-1074 : Int) < e) = false := decide_eq_false p2
      rw [if_neg (fun q => p2 q.2)] at hDn
      clear p1
      subst hDn
      clear hm hm0 he
      go_enter Tryz.func143, Tryz.ntmps143
      go_wp2_with fail
      refine (HO1.out _ HK1.out).mono ?_
      rintro r w2 ⟨rfl, k2⟩
      obtain ⟨r0, r1, -, -⟩ := (HS1.out.keep k2).cells
      have HK2 : Hid (Keep w w2) := HK1.out.trans k2
      clear k2
      go_wp2_with fail
      refine (HO2.out _ HK2.out).mono ?_
      rintro r w3 ⟨rfl, k3⟩
      have HK3 : Hid (Keep w w3) := HK2.out.trans k3
      clear k3
      cases xa <;> cases ev <;> cases xb <;> (go_wp2_with fail; go_ret2; exact ⟨by rw [HL.out, HH.out]; rfl, HK3.out⟩)
  · have b1 : ((m : Int) == 4503599627370496) = false := by rw [beq_eq_false_iff_ne]; omega
    rw [if_neg (fun q => p1 q.1)] at hDn
    subst hDn
    clear hm hm0 he
    go_enter Tryz.func143, Tryz.ntmps143
    go_wp2_with fail
    refine (HO1.out _ HK1.out).mono ?_
    rintro r w2 ⟨rfl, k2⟩
    obtain ⟨r0, r1, -, -⟩ := (HS1.out.keep k2).cells
    have HK2 : Hid (Keep w w2) := HK1.out.trans k2
    clear k2
    go_wp2_with fail
    refine (HO2.out _ HK2.out).mono ?_
    rintro r w3 ⟨rfl, k3⟩
    have HK3 : Hid (Keep w w3) := HK2.out.trans k3
    clear k3
    cases xa <;> cases ev <;> cases xb <;> (go_wp2_with fail; go_ret2; exact ⟨by rw [HL.out, HH.out]; rfl, HK3.out⟩)
end Go.Proofs.YtpdjpjkieafnbaaGreatDoor.Li
set_option linter.unusedVariables false
set_option linter.unusedSimpArgs false
namespace Go.Proofs.YtpdjpjkieafnbaaGreatDoor.Li
open Go.RowKit Lb Nr
/-- Is the upper one to be taken? -/
def goU (b u tw : Nat) (ex : Bool) (lo hi : Nat) : Bool :=
  if b * u < lo then true else if hi < (b + 1) * u then false else if (decide (tw = u) && ex) = true then decide (b % 2 = 1) else decide (u ≤ tw)
set_option maxRecDepth 100000 in
set_option maxHeartbeats 400000 in
theorem goesUp_any (b u tw : Nat) (ex : Bool) (lo hi : Nat) (w : World) (h1 : (b + 1) * u < 18446744073709551616) (h2 : b + 1 < 18446744073709551616) :
    Calls Tryz.prog 145 #[.int .u64 (b : Int), .int .u64 (u : Int), .int .u64 (tw : Int), .bool ex, .int .u64 (lo : Int), .int .u64 (hi : Int)] w fun e w' => e = .returned (.bool (goU b u tw ex lo hi)) ∧ w = w' := by
  have h0 : b * u < 18446744073709551616 := Nat.lt_of_le_of_lt (Nat.mul_le_mul_right u (Nat.le_succ b)) h1
  have e1 : IntKind.u64.wrap ((b : Int) * (u : Int)) = ((b * u : Nat) : Int) := by
    rw [show (b : Int) * (u : Int) = ((b * u : Nat) : Int) by simp, IntKind.wrap_u64]
    omega
  have e2 : IntKind.u64.wrap ((b : Int) + 1) = ((b + 1 : Nat) : Int) := by rw [IntKind.wrap_u64]; omega
  have e3 : IntKind.u64.wrap (((b + 1 : Nat) : Int) * (u : Int)) = (((b + 1) * u : Nat) : Int) := by
    rw [show ((b + 1 : Nat) : Int) * (u : Int) = (((b + 1) * u : Nat) : Int) by simp, IntKind.wrap_u64]
    omega
  have e4 : Int.tmod (b : Int) 2 = ((b % 2 : Nat) : Int) := by rw [Int.ofNat_tmod]; rfl
  have HG : Hid (goU b u tw ex lo hi = if b * u < lo then true else if hi < (b + 1) * u then false else if (decide (tw = u) && ex) = true then decide (b % 2 = 1) else decide (u ≤ tw)) := rfl
  generalize goU b u tw ex lo hi = G at *
  generalize (b + 1) * u = y at *
  generalize b * u = x at *
  generalize b + 1 = b1 at *
  have e5 : (((b % 2 : Nat) : Int) == 1) = decide (b % 2 = 1) := by
    by_cases c : b % 2 = 1
    · rw [c]; rfl
    · rw [decide_eq_false c, beq_eq_false_iff_ne]; omega
  generalize decide (b % 2 = 1) = od at *
  generalize b % 2 = r at *
  have d1 : decide ((x : Int) < (lo : Int)) = decide (x < lo) := by congr 1; apply propext; omega
  have d2 : decide ((hi : Int) < (y : Int)) = decide (hi < y) := by congr 1; apply propext; omega
  have d3 : ((tw : Int) == (u : Int)) = decide (tw = u) := by
    by_cases c : tw = u
    · rw [c]; simp
    · rw [decide_eq_false c, beq_eq_false_iff_ne]; omega
  have d4 : decide ((u : Int) ≤ (tw : Int)) = decide (u ≤ tw) := by congr 1; apply propext; omega
  clear h0 h1 h2
  by_cases c1 : x < lo
  · rw [if_pos c1] at HG
    have z1 : decide (x < lo) = true := decide_eq_true c1
    clear d1 d2 d3 d4 c1
    go_enter Tryz.func145, Tryz.ntmps145
    go_wp2_with fail
    go_ret
    exact ⟨by rw [HG.out]; rfl, rfl⟩
  · rw [if_neg c1] at HG
    have z1 : decide (x < lo) = false := decide_eq_false c1
    by_cases c2 : hi < y
    · rw [if_pos c2] at HG
      have z2 : decide (hi < y) = true := decide_eq_true c2
      clear d1 d2 d3 d4 c1 c2
      go_enter Tryz.func145, Tryz.ntmps145
      go_wp2_with fail
      go_ret
      exact ⟨by rw [HG.out]; rfl, rfl⟩
    · rw [if_neg c2] at HG
      have z2 : decide (hi < y) = false := decide_eq_false c2
      obtain ⟨q, hq⟩ : ∃ q, decide (tw = u) = q := ⟨_, rfl⟩
      obtain ⟨v, hv⟩ : ∃ v, decide (u ≤ tw) = v := ⟨_, rfl⟩
      rw [hq] at d3 HG
      rw [hv] at d4 HG
      have d5 : (tw == u) = q := by rw [← hq]; by_cases c : tw = u; (rw [c]; simp); (rw [decide_eq_false c, beq_eq_false_iff_ne]; exact c)
      clear d1 d2 c1 c2
      cases q <;> cases ex <;> (go_enter Tryz.func145, Tryz.ntmps145; go_wp2_with fail; go_ret; exact ⟨by rw [HG.out]; rfl, rfl⟩)
end Go.Proofs.YtpdjpjkieafnbaaGreatDoor.Li
set_option linter.unusedVariables false
set_option linter.unusedSimpArgs false
namespace Go.Proofs.YtpdjpjkieafnbaaGreatDoor.Li
open Go.RowKit Lb Nr
/-- The greatest power of ten, up to one, that has a multiple between the borders. -/
def unK (lo hi : Nat) : Nat → Nat
  | 0 => 0
  | k + 1 => if hi / 10 ^ (k + 1) * 10 ^ (k + 1) < lo then unK lo hi k else k + 1
theorem unK_le (lo hi : Nat) : ∀ k, unK lo hi k ≤ k
  | 0 => Nat.le_refl _
  | k + 1 => by
    unfold unK
    split
    · exact Nat.le_succ_of_le (unK_le lo hi k)
    · exact Nat.le_refl _
/-- By which power of ten a number is scaled. -/
def tnF (m : Nat) (e : Int) : Int := 17 - ((Lib.bitLen m : Int) + e - 1) * 78913 / 262144
def fwK (m : Nat) (e : Int) : Nat := unK (bLow m e (tnF m e)) (bHi m e (tnF m e)) 18
def fwB (m : Nat) (e : Int) : Nat := ofQ e (tnF m e) (8 * m) / 2 / 10 ^ fwK m e
def fwD (m : Nat) (e : Int) : Nat := if goU (fwB m e) (10 ^ fwK m e) (ofQ e (tnF m e) (8 * m) - 2 * fwB m e * 10 ^ fwK m e) (ofX e (tnF m e) (8 * m)) (bLow m e (tnF m e)) (bHi m e (tnF m e)) then fwB m e + 1 else fwB m e
theorem ten_le {k : Nat} (h : k ≤ 18) : 0 < 10 ^ k ∧ 10 ^ k ≤ 1000000000000000000 := ⟨Nat.pow_pos (by omega), Nat.le_trans (Nat.pow_le_pow_right (by omega) h) (by decide)⟩
set_option maxRecDepth 100000 in
set_option maxHeartbeats 2000000 in
theorem fewest_any (m : Nat) (e : Int) (w : World) (hm0 : 0 < m) (hm : m < 9007199254740992) (he : -1074 ≤ e ∧ e ≤ 971) (hbl : Lib.bitLen m ≤ 64) (hT : -16000 ≤ tnF m e ∧ tnF m e ≤ 16000) (hq : ofQ e (tnF m e) (4 * m + 2) < 9223372036854775808) (hq1 : 0 < ofQ e (tnF m e) (4 * m + 2)) (hq2 : ofQ e (tnF m e) (bDn m e) ≤ ofQ e (tnF m e) (4 * m + 2)) (hq8 : ofQ e (tnF m e) (8 * m) < 9223372036854775808) :
    Calls Tryz.prog 99 #[.agg #[.int .i64 52, .int .i64 2047, .int .i64 (-1074)], .int .u64 (m : Int), .int .i64 e] w fun r w' => r = .returned (.tuple #[.int .u64 (fwD m e : Nat), .int .i64 ((fwK m e : Int) - tnF m e)]) ∧ Keep w w' := by
  have hL := fun wx => Tryz.bits_Len64 (m : Int) wx (by omega) (by omega)
  rw [Int.toNat_natCast] at hL
  have hTe : 17 - ((Lib.bitLen m : Int) + e - 1) * 78913 / 262144 = tnF m e := rfl
  have hN := fun wx => newScale_any e (tnF m e) wx (by omega) hT
  have hB := fun u1 u2 wx h1 h2 => borders_any m e (tnF m e) u1 u2 wx h1 h2 hm0 hm he hq hq1 hq2
  have hO := fun u1 u2 wx h1 h2 => of_sc e (tnF m e) (8 * m) u1 u2 wx h1 h2 (by omega) (by omega) (by omega)
  have hK18 : fwK m e ≤ 18 := unK_le _ _ _
  have hDe : Hid (fwD m e = if goU (fwB m e) (10 ^ fwK m e) (ofQ e (tnF m e) (8 * m) - 2 * fwB m e * 10 ^ fwK m e) (ofX e (tnF m e) (8 * m)) (bLow m e (tnF m e)) (bHi m e (tnF m e)) then fwB m e + 1 else fwB m e) := rfl
  have hBe : fwB m e = ofQ e (tnF m e) (8 * m) / 2 / 10 ^ fwK m e := rfl
  have hKe : Hid (unK (bLow m e (tnF m e)) (bHi m e (tnF m e)) 18 = fwK m e) := rfl
  have hhi : bHi m e (tnF m e) ≤ ofQ e (tnF m e) (4 * m + 2) := Nat.sub_le _ _
  generalize fwD m e = DD at *
  generalize fwB m e = BB at *
  generalize fwK m e = KK at *
  generalize hsn : sNum e (tnF m e) = SN at *
  generalize hsd : sDen e (tnF m e) = SD at *
  generalize bLow m e (tnF m e) = lo at *
  generalize bHi m e (tnF m e) = hi at *
  generalize ofX e (tnF m e) (8 * m) = x8 at *
  generalize ofQ e (tnF m e) (8 * m) = q8 at *
  generalize ofQ e (tnF m e) (4 * m + 2) = q4 at *
  generalize tnF m e = T at *
  generalize Lib.bitLen m = bl at *
  have hlt : hi < 9223372036854775808 := by omega
  clear hsn hsd hq hq1 hq2 hhi
  obtain ⟨w1, hw1⟩ : ∃ w1, w.alloc (.cells #[.int .i64 52, .int .i64 2047, .int .i64 (-1074)] 85) = w1 := ⟨_, rfl⟩
  have k1 : Keep w w1 := by rw [← hw1]; exact (Keep.refl w).alloc _
  have F1 : Fm w1 w.heap.size := by rw [← hw1]; exact Fm.new w
  have hw8 : IntKind.u64.wrap (8 * (m : Int)) = ((8 * m : Nat) : Int) := by rw [IntKind.wrap_u64]; omega
  generalize 8 * m = m8 at *
  have h18 : ((10 ^ 18 : Nat) : Int) = 1000000000000000000 := by decide
  replace h18 : Hid _ := h18
  go_enter Tryz.func99, Tryz.ntmps99
  go_wp2_with fail
  refine (hL _).mono ?_
  rintro r wz ⟨rfl, hwz⟩
  rw [hwz]
  clear hwz hL
  go_wp2_with fail
  refine (hN _).mono ?_
  rintro r w2 ⟨u1, u2, rfl, hu1, hu2, k2⟩
  obtain ⟨a1, l1, c1, rfl⟩ := hu1.shape
  obtain ⟨a2, l2, c2, rfl⟩ := hu2.shape
  obtain ⟨w3, hw3⟩ : ∃ w3, w2.alloc (.cells #[.slice a1 l1 c1, .slice a2 l2 c2] 173) = w3 := ⟨_, rfl⟩
  have k3 : Keep w2 w3 := by rw [← hw3]; exact (Keep.refl w2).alloc _
  have S3 : Sc w3 w2.heap.size (.slice a1 l1 c1) (.slice a2 l2 c2) := by rw [← hw3]; exact Sc.new w2 _ _
  have F3 := (F1.keep k2).keep k3
  obtain ⟨f0, f1, f2⟩ := F3.cells
  obtain ⟨s0, s1, -, -⟩ := S3.cells
  have HU1 : Hid (Lv w3 (.slice a1 l1 c1) SN 2101) := hu1.keep k3
  have HU2 : Hid (Lv w3 (.slice a2 l2 c2) SD 2101) := hu2.keep k3
  have HS3 : Hid (Sc w3 w2.heap.size (.slice a1 l1 c1) (.slice a2 l2 c2)) := S3
  have HK3 : Hid (Keep w w3) := (k1.trans k2).trans k3
  clear F1 F3 S3 hu1 hu2 k1 k2 k3 hN
  go_wp2_with fail
  refine (hB _ _ _ HU1.out HU2.out).mono ?_
  rintro r w4 ⟨rfl, k4⟩
  obtain ⟨r0, r1, -, -⟩ := (HS3.out.keep k4).cells
  have HU1' : Hid (Lv w4 (.slice a1 l1 c1) SN 2101) := HU1.out.keep k4
  have HU2' : Hid (Lv w4 (.slice a2 l2 c2) SD 2101) := HU2.out.keep k4
  have HK4 : Hid (Keep w w4) := HK3.out.trans k4
  have HO : Hid (∀ u1 u2 wx, Lv wx u1 SN 2101 → Lv wx u2 SD 2101 → Calls Tryz.prog 144 #[.agg #[u1, u2], .int .u64 (m8 : Int)] wx fun r w' => r = .returned (.tuple #[.int .u64 (q8 : Int), .bool x8]) ∧ Keep wx w') := hO
  clear hB k4 hO
  go_wp2_with fail
  go_loopg [12, 13] (18) (fun g v12 v13 wx => g ≤ 18 ∧ v12 = .int .u64 ((10 ^ g : Nat) : Int) ∧ v13 = .int .i64 (g : Int) ∧ Hid (unK lo hi g = KK) ∧ wx = w4)
  case atStart => exact ⟨Nat.le_refl _, congrArg (Value.int .u64) h18.out.symm, rfl, hKe, rfl⟩
  case round =>
    obtain ⟨hg18, rfl, rfl, hu, rfl⟩ := hrel
    obtain ⟨hU0, hU1⟩ := ten_le hg18
    have hexit : gk = KK → Hid (BB = q8 / 2 / 10 ^ gk ∧ DD = if goU BB (10 ^ gk) (q8 - 2 * BB * 10 ^ gk) x8 lo hi = true then BB + 1 else BB) := by
      intro q
      rw [q]
      exact ⟨hBe, hDe.out⟩
    clear hBe hDe hKe
    cases gk with
    | zero =>
      have hz : (0 : Nat) = KK := hu.out
      have HX := hexit hz
      have HZ : Hid (KK = 0) := hz.symm
      subst hz
      obtain ⟨U, hU⟩ : ∃ U, 10 ^ 0 = U := ⟨_, rfl⟩
      rw [hU] at HX hU0 hU1
      have hU1' : U = 1 := by rw [← hU]
      rw [hU]
      clear hexit hu
      have c1 : decide (1 < U) = false := decide_eq_false (by omega)
      have c1p : ¬ (1 : Int) < (U : Int) := by omega
      have c1n : ¬ 1 < U := by omega
      clear hU hU1'
      obtain ⟨hBq, hDq⟩ := HX.out
      have hBU : BB * U ≤ q8 / 2 := by rw [hBq]; exact Nat.div_mul_le_self _ _
      have hBU1 : (BB + 1) * U < 18446744073709551616 := by rw [Nat.add_mul, Nat.one_mul]; omega
      have hBs : BB ≤ q8 / 2 := by rw [hBq]; exact Nat.div_le_self _ _
      have g1 : (q8 : Int) / 2 = ((q8 / 2 : Nat) : Int) := by omega
      have g2 : IntKind.u64.wrap (((q8 / 2 : Nat) : Int) / (U : Int)) = (BB : Int) := by
        rw [show ((q8 / 2 : Nat) : Int) / (U : Int) = ((q8 / 2 / U : Nat) : Int) by simp, ← hBq, IntKind.wrap_u64]
        omega
      have gz : True := trivial
      have g3 : IntKind.u64.wrap (2 * (BB : Int)) = ((2 * BB : Nat) : Int) := by rw [IntKind.wrap_u64]; omega
      have g4 : IntKind.u64.wrap (((2 * BB : Nat) : Int) * (U : Int)) = ((2 * BB * U : Nat) : Int) := by
        rw [show ((2 * BB : Nat) : Int) * (U : Int) = ((2 * BB * U : Nat) : Int) by simp, IntKind.wrap_u64]
        have : 2 * BB * U ≤ q8 := by rw [Nat.mul_assoc]; omega
        omega
      have g5 : IntKind.u64.wrap ((q8 : Int) - ((2 * BB * U : Nat) : Int)) = ((q8 - 2 * BB * U : Nat) : Int) := by
        rw [IntKind.wrap_u64]
        have : 2 * BB * U ≤ q8 := by rw [Nat.mul_assoc]; omega
        omega
      have hG := fun wx => goesUp_any BB U (q8 - 2 * BB * U) x8 lo hi wx hBU1 (by omega)
      have g6 : IntKind.u64.wrap ((BB : Int) + 1) = ((BB + 1 : Nat) : Int) := by rw [IntKind.wrap_u64]; omega
      have HD2 : Hid (DD = if goU BB U (q8 - 2 * BB * U) x8 lo hi = true then BB + 1 else BB) := hDq
      generalize goU BB U (q8 - 2 * BB * U) x8 lo hi = gu at *
      generalize q8 - 2 * BB * U = tw at *
      generalize 2 * BB * U = z at *
      generalize 2 * BB = z2 at *
      generalize BB + 1 = BB1 at *
      generalize hq2 : q8 / 2 = qh at *
      clear hBU hBU1 hBs hDq hBq HX hq2
      go_wp2_with fail
      refine (HO.out _ _ _ HU1'.out HU2'.out).mono ?_
      rintro r w5 ⟨rfl, k5⟩
      have HK5 : Hid (Keep w w5) := HK4.out.trans k5
      clear k5
      go_wp2_with fail
      refine (hG _).mono ?_
      rintro r w6 ⟨rfl, rfl⟩
      have HT0 : Hid ((((0 : Nat) : Int) - T) = -T) := by unfold Hid; omega
      cases gu with
      | true =>
        have HDD : Hid (DD = BB1) := by unfold Hid; rw [HD2.out, if_pos rfl]
        go_wp2_with fail
        go_ret2
        exact ⟨by rw [HDD.out, HT0.out]; rfl, HK5.out⟩
      | false =>
        have HDD : Hid (DD = BB) := by unfold Hid; rw [HD2.out, if_neg (by simp)]
        go_wp2_with fail
        go_ret2
        exact ⟨by rw [HDD.out, HT0.out]; rfl, HK5.out⟩
    | succ j =>
      have hne : 1 < 10 ^ (j + 1) := Nat.one_lt_pow (by omega) (by omega)
      have hdv : 10 ^ (j + 1) / 10 = 10 ^ j := by rw [Nat.pow_succ]; exact Nat.mul_div_cancel _ (by omega)
      have hst : unK lo hi (j + 1) = if hi / 10 ^ (j + 1) * 10 ^ (j + 1) < lo then unK lo hi j else j + 1 := rfl
      rw [hu.out] at hst
      have hmul : hi / 10 ^ (j + 1) * 10 ^ (j + 1) ≤ hi := Nat.div_mul_le_self _ _
      obtain ⟨U, hU⟩ : ∃ U, 10 ^ (j + 1) = U := ⟨_, rfl⟩
      rw [hU] at hexit hU0 hU1 hne hdv hst hmul
      rw [hU]
      have c1 : decide (1 < U) = true := decide_eq_true hne
      have c1p : (1 : Int) < (U : Int) := by omega
      have m1 : IntKind.u64.wrap ((hi : Int) / (U : Int)) = ((hi / U : Nat) : Int) := by
        rw [show (hi : Int) / (U : Int) = ((hi / U : Nat) : Int) by simp]
        have hle := Nat.div_le_self hi U
        obtain ⟨p, hp⟩ : ∃ p, hi / U = p := ⟨_, rfl⟩
        rw [hp] at hle ⊢
        rw [IntKind.wrap_u64]
        omega
      have m2 : IntKind.u64.wrap (((hi / U : Nat) : Int) * (U : Int)) = ((hi / U * U : Nat) : Int) := by
        rw [show ((hi / U : Nat) : Int) * (U : Int) = ((hi / U * U : Nat) : Int) by simp]
        obtain ⟨p, hp⟩ : ∃ p, hi / U * U = p := ⟨_, rfl⟩
        rw [hp] at hmul ⊢
        rw [IntKind.wrap_u64]
        omega
      generalize hi / U * U = hu2 at *
      generalize hi / U = hu1 at *
      clear hU
      by_cases c2 : hu2 < lo
      · rw [if_pos c2] at hst
        have c3 : decide (hu2 < lo) = true := decide_eq_true c2
        have m3 : (U : Int) / 10 = ((10 ^ j : Nat) : Int) := by rw [← hdv]; simp
        have m4 : (10 ^ j : Nat) < 18446744073709551616 := by rw [← hdv]; omega
        have m5 : IntKind.u64.wrap ((10 ^ j : Nat) : Int) = ((10 ^ j : Nat) : Int) := by rw [IntKind.wrap_u64]; omega
        have HV : Hid (∀ V : Nat, 10 ^ j = V → Value.int .u64 (V : Int) = Value.int .u64 ((10 ^ j : Nat) : Int)) := fun V h => by rw [h]
        have HST : Hid (unK lo hi j = KK) := hst.symm
        have hj18 : j ≤ 18 := by omega
        obtain ⟨V, hV⟩ : ∃ V, 10 ^ j = V := ⟨_, rfl⟩
        rw [hV] at m3 m4 m5
        have HV2 := HV.out V hV
        replace HV2 : Hid _ := HV2
        clear hV HV
        clear hexit hst hdv hu
        go_wp2_with fail
        go_roundg (j)
        case measure => omega
        case rel => exact ⟨hj18, HV2.out, rfl, HST, rfl⟩
      · rw [if_neg c2] at hst
        have c3 : decide (hu2 < lo) = false := decide_eq_false c2
        have HX := hexit hst.symm
        clear hexit hu hdv
        subst hst
        obtain ⟨hBq, hDq⟩ := HX.out
        have hBU : BB * U ≤ q8 / 2 := by rw [hBq]; exact Nat.div_mul_le_self _ _
        have hBU1 : (BB + 1) * U < 18446744073709551616 := by rw [Nat.add_mul, Nat.one_mul]; omega
        have hBs : BB ≤ q8 / 2 := by rw [hBq]; exact Nat.div_le_self _ _
        have g1 : (q8 : Int) / 2 = ((q8 / 2 : Nat) : Int) := by omega
        have g2 : IntKind.u64.wrap (((q8 / 2 : Nat) : Int) / (U : Int)) = (BB : Int) := by
          rw [show ((q8 / 2 : Nat) : Int) / (U : Int) = ((q8 / 2 / U : Nat) : Int) by simp, ← hBq, IntKind.wrap_u64]
          omega
        have gz : True := trivial
        have g3 : IntKind.u64.wrap (2 * (BB : Int)) = ((2 * BB : Nat) : Int) := by rw [IntKind.wrap_u64]; omega
        have g4 : IntKind.u64.wrap (((2 * BB : Nat) : Int) * (U : Int)) = ((2 * BB * U : Nat) : Int) := by
          rw [show ((2 * BB : Nat) : Int) * (U : Int) = ((2 * BB * U : Nat) : Int) by simp, IntKind.wrap_u64]
          have : 2 * BB * U ≤ q8 := by rw [Nat.mul_assoc]; omega
          omega
        have g5 : IntKind.u64.wrap ((q8 : Int) - ((2 * BB * U : Nat) : Int)) = ((q8 - 2 * BB * U : Nat) : Int) := by
          rw [IntKind.wrap_u64]
          have : 2 * BB * U ≤ q8 := by rw [Nat.mul_assoc]; omega
          omega
        have hG := fun wx => goesUp_any BB U (q8 - 2 * BB * U) x8 lo hi wx hBU1 (by omega)
        have g6 : IntKind.u64.wrap ((BB : Int) + 1) = ((BB + 1 : Nat) : Int) := by rw [IntKind.wrap_u64]; omega
        have HD2 : Hid (DD = if goU BB U (q8 - 2 * BB * U) x8 lo hi = true then BB + 1 else BB) := hDq
        generalize goU BB U (q8 - 2 * BB * U) x8 lo hi = gu at *
        generalize q8 - 2 * BB * U = tw at *
        generalize 2 * BB * U = z at *
        generalize 2 * BB = z2 at *
        generalize BB + 1 = BB1 at *
        generalize hq2 : q8 / 2 = qh at *
        clear hBU hBU1 hBs hDq hBq HX hq2
        go_wp2_with fail
        refine (HO.out _ _ _ HU1'.out HU2'.out).mono ?_
        rintro r w5 ⟨rfl, k5⟩
        have HK5 : Hid (Keep w w5) := HK4.out.trans k5
        clear k5
        go_wp2_with fail
        refine (hG _).mono ?_
        rintro r w6 ⟨rfl, rfl⟩
        have HT0 : Hid ((((j + 1 : Nat) : Int) - T) = (j : Int) + 1 - T) := by unfold Hid; omega
        cases gu with
        | true =>
          have HDD : Hid (DD = BB1) := by unfold Hid; rw [HD2.out, if_pos rfl]
          go_wp2_with fail
          go_ret2
          exact ⟨by rw [HDD.out, HT0.out]; rfl, HK5.out⟩
        | false =>
          have HDD : Hid (DD = BB) := by unfold Hid; rw [HD2.out, if_neg (by simp)]
          go_wp2_with fail
          go_ret2
          exact ⟨by rw [HDD.out, HT0.out]; rfl, HK5.out⟩
end Go.Proofs.YtpdjpjkieafnbaaGreatDoor.Li
