import Derived.Test.YtpdjpjkieafnbaaGreatDoorSH4
import Derived.Test.YtpdjpjkieafnbaaGreatDoorSH7
set_option linter.unusedVariables false
set_option linter.unusedSimpArgs false
namespace Go.Proofs.YtpdjpjkieafnbaaGreatDoor.Li
open Go.RowKit Lb Nr
/-- Twice to the power that a number begins with, scaled: seventeen to nineteen digits. -/
def chkL (i : Nat) : Bool :=
  let L : Int := (i : Int) - 1074
  let T : Int := 17 - L * 78913 / 262144
  decide (-400 ≤ T) && decide (T ≤ 400) && decide (99000000000000000 * (10 ^ (-T).toNat * 2 ^ (-L).toNat) ≤ 10 ^ T.toNat * 2 ^ L.toNat) && decide (2 * (10 ^ T.toNat * 2 ^ L.toNat) ≤ 2100000000000000000 * (10 ^ (-T).toNat * 2 ^ (-L).toNat))
set_option maxRecDepth 100000 in
theorem chk_all : (List.range 2098).all chkL = true := by decide +kernel
theorem chk_of (L : Int) (h : -1074 ≤ L ∧ L ≤ 1023) : (-400 ≤ 17 - L * 78913 / 262144 ∧ 17 - L * 78913 / 262144 ≤ 400) ∧ 99000000000000000 * (10 ^ (-(17 - L * 78913 / 262144)).toNat * 2 ^ (-L).toNat) ≤ 10 ^ (17 - L * 78913 / 262144).toNat * 2 ^ L.toNat ∧ 2 * (10 ^ (17 - L * 78913 / 262144).toNat * 2 ^ L.toNat) ≤ 2100000000000000000 * (10 ^ (-(17 - L * 78913 / 262144)).toNat * 2 ^ (-L).toNat) := by
  have a := List.all_eq_true.1 chk_all (L + 1074).toNat (by rw [List.mem_range]; omega)
  unfold chkL at a
  rw [show (((L + 1074).toNat : Nat) : Int) - 1074 = L by omega] at a
  simp only [Bool.and_eq_true, decide_eq_true_eq] at a
  exact ⟨⟨a.1.1.1, a.1.1.2⟩, a.1.2, a.2⟩
theorem bla_bounds : ∀ (f x : Nat), x < 2 ^ f → x < 2 ^ Lib.bitLenAux f x ∧ (0 < x → 0 < Lib.bitLenAux f x ∧ 2 ^ (Lib.bitLenAux f x - 1) ≤ x) ∧ Lib.bitLenAux f x ≤ f := by
  intro f
  induction f with
  | zero => intro x h; simp at h; subst h; exact ⟨by decide, fun q => absurd q (by omega), Nat.le_refl _⟩
  | succ f ih =>
    intro x h
    by_cases h0 : x = 0
    · subst h0
      exact ⟨by simp [Lib.bitLenAux], fun q => absurd q (by omega), by simp [Lib.bitLenAux]⟩
    · have e : Lib.bitLenAux (f + 1) x = Lib.bitLenAux f (x / 2) + 1 := by
        rw [Lib.bitLenAux, if_neg h0]
        omega
      obtain ⟨a, b, c⟩ := ih (x / 2) (by rw [Nat.pow_succ] at h; omega)
      rw [e]
      refine ⟨?_, fun _ => ⟨by omega, ?_⟩, by omega⟩
      · rw [Nat.pow_succ]
        omega
      · rw [Nat.add_sub_cancel]
        by_cases h1 : x / 2 = 0
        · have : Lib.bitLenAux f (x / 2) = 0 := by
            rw [h1]
            cases f <;> simp [Lib.bitLenAux]
          rw [this]
          show 1 ≤ x
          omega
        · obtain ⟨b1, b2⟩ := b (by omega)
          have e2 : 2 ^ Lib.bitLenAux f (x / 2) = 2 * 2 ^ (Lib.bitLenAux f (x / 2) - 1) := by
            rw [← Nat.pow_succ']
            congr 1
            omega
          rw [e2]
          omega
theorem bl_bounds {m : Nat} (h : 0 < m) (hm : m < 18446744073709551616) : 2 ^ (Lib.bitLen m - 1) ≤ m ∧ m < 2 ^ Lib.bitLen m ∧ 0 < Lib.bitLen m ∧ Lib.bitLen m ≤ 64 := by
  obtain ⟨a, b, c⟩ := bla_bounds 64 m (by exact hm)
  exact ⟨(b h).2, a, (b h).1, c⟩
theorem bl_53 {m : Nat} (h : 0 < m) (hm : m < 9007199254740992) : Lib.bitLen m ≤ 53 := by
  obtain ⟨a, -, c, d⟩ := bl_bounds h (by omega)
  rcases Nat.lt_or_ge 53 (Lib.bitLen m) with q | q
  · have : 2 ^ 53 ≤ 2 ^ (Lib.bitLen m - 1) := Nat.pow_le_pow_right (by omega) (by omega)
    have e : (2 : Nat) ^ 53 = 9007199254740992 := by decide
    omega
  · exact q
/-- A number scaled. -/
theorem scale_ok {m : Nat} {e : Int} (hm0 : 0 < m) (hm : m < 9007199254740992) (he : -1074 ≤ e ∧ e ≤ 971) :
    (-400 ≤ tnF m e ∧ tnF m e ≤ 400) ∧ 99000000000000000 * sDen e (tnF m e) ≤ 4 * m * sNum e (tnF m e) ∧ 4 * m * sNum e (tnF m e) < 2100000000000000000 * sDen e (tnF m e) := by
  obtain ⟨a1, a2, a3, a4⟩ := bl_bounds hm0 (by omega)
  have a5 := bl_53 hm0 hm
  obtain ⟨L, hL⟩ : ∃ L : Int, (Lib.bitLen m : Int) + e - 1 = L := ⟨_, rfl⟩
  have hT : tnF m e = 17 - L * 78913 / 262144 := by unfold tnF; rw [hL]
  obtain ⟨c1, c2, c3⟩ := chk_of L (by omega)
  rw [← hT] at c1 c2 c3
  refine ⟨c1, ?_⟩
  generalize tnF m e = T at *
  unfold sNum sDen
  generalize hbl : Lib.bitLen m = bl at *
  generalize hA : 10 ^ T.toNat = A at *
  generalize hB : 10 ^ (-T).toNat = B at *
  have hex : 4 * 2 ^ (bl - 1) * 2 ^ (e - 2).toNat * 2 ^ (-L).toNat = 2 ^ L.toNat * 2 ^ (-(e - 2)).toNat := by
    rw [show (4 : Nat) = 2 ^ 2 from rfl, ← Nat.pow_add, ← Nat.pow_add, ← Nat.pow_add, ← Nat.pow_add]
    congr 1
    omega
  have hex2 : 2 ^ bl = 2 * 2 ^ (bl - 1) := by rw [← Nat.pow_succ']; congr 1; omega
  rw [hex2] at a2
  have hpos : 0 < 2 ^ (-L).toNat := Nat.two_pow_pos _
  have hpos2 : 0 < 2 ^ (-(e - 2)).toNat := Nat.two_pow_pos _
  have hposA : 0 < A := by rw [← hA]; exact Nat.pow_pos (by omega)
  have hpos3 : 0 < 2 ^ (e - 2).toNat := Nat.two_pow_pos _
  clear hA hB hT hL a3 a4 a5 he hm hbl hex2
  generalize 2 ^ (bl - 1) = X at *
  generalize 2 ^ (e - 2).toNat = Y at *
  generalize 2 ^ (-L).toNat = Z at *
  generalize 2 ^ L.toNat = V at *
  generalize 2 ^ (-(e - 2)).toNat = W at *
  constructor
  · apply Nat.le_of_mul_le_mul_right _ hpos
    calc 99000000000000000 * (B * W) * Z = 99000000000000000 * (B * Z) * W := by ac_rfl
      _ ≤ A * V * W := Nat.mul_le_mul_right _ c2
      _ = A * (V * W) := by ac_rfl
      _ = A * (4 * X * Y * Z) := by rw [hex]
      _ = 4 * X * (A * Y) * Z := by ac_rfl
      _ ≤ 4 * m * (A * Y) * Z := Nat.mul_le_mul_right _ (Nat.mul_le_mul_right _ (Nat.mul_le_mul_left _ a1))
  · apply Nat.lt_of_mul_lt_mul_right (a := Z)
    calc 4 * m * (A * Y) * Z < 4 * (2 * X) * (A * Y) * Z := by
            apply Nat.mul_lt_mul_of_pos_right _ hpos
            apply Nat.mul_lt_mul_of_pos_right _ (Nat.mul_pos hposA hpos3)
            omega
      _ = 2 * A * (4 * X * Y * Z) := by ac_rfl
      _ = 2 * A * (V * W) := by rw [hex]
      _ = 2 * (A * V) * W := by ac_rfl
      _ ≤ 2100000000000000000 * (B * Z) * W := Nat.mul_le_mul_right _ c3
      _ = 2100000000000000000 * (B * W) * Z := by ac_rfl
end Go.Proofs.YtpdjpjkieafnbaaGreatDoor.Li
set_option linter.unusedVariables false
set_option linter.unusedSimpArgs false
namespace Go.Proofs.YtpdjpjkieafnbaaGreatDoor.Li
open Go.RowKit Lb Nr
theorem ofQ_mono (e t : Int) {a b : Nat} (h : a ≤ b) : ofQ e t a ≤ ofQ e t b := Nat.div_le_div_right (Nat.mul_le_mul_right _ h)
theorem ofQ_lt {e t : Int} {n C : Nat} (h : n * sNum e t < C * sDen e t) : ofQ e t n < C := by
  unfold ofQ
  rw [Nat.div_lt_iff_lt_mul (sDen_pos e t)]
  exact h
theorem ofQ_ge {e t : Int} {n C : Nat} (h : C * sDen e t ≤ n * sNum e t) : C ≤ ofQ e t n := by
  unfold ofQ
  rw [Nat.le_div_iff_mul_le (sDen_pos e t)]
  exact h
theorem bDn_le (m : Nat) (e : Int) (h : 0 < m) : bDn m e ≤ 4 * m + 2 := by unfold bDn; split <;> omega
/-- The bounds of what is reckoned with. -/
theorem fw_bounds {m : Nat} {e : Int} (hm0 : 0 < m) (hm : m < 9007199254740992) (he : -1074 ≤ e ∧ e ≤ 971) :
    ofQ e (tnF m e) (4 * m + 2) < 3150000000000000000 ∧ 99000000000000000 ≤ ofQ e (tnF m e) (4 * m + 2) ∧ ofQ e (tnF m e) (bDn m e) ≤ ofQ e (tnF m e) (4 * m + 2) ∧ ofQ e (tnF m e) (8 * m) < 4200000000000000000 := by
  obtain ⟨-, a, b⟩ := scale_ok hm0 hm he
  generalize tnF m e = T at *
  refine ⟨ofQ_lt ?_, ofQ_ge ?_, ofQ_mono _ _ (bDn_le m e hm0), ofQ_lt ?_⟩
  · have h1 : (4 * m + 2) * sNum e T ≤ 6 * m * sNum e T := Nat.mul_le_mul_right _ (by omega)
    have e1 : 2 * (6 * m * sNum e T) = 3 * (4 * m * sNum e T) := by rw [← Nat.mul_assoc 2, ← Nat.mul_assoc 3]; congr 1; omega
    omega
  · exact Nat.le_trans a (Nat.mul_le_mul_right _ (by omega))
  · have e1 : 8 * m * sNum e T = 2 * (4 * m * sNum e T) := by rw [← Nat.mul_assoc 2]; congr 1; omega
    omega
theorem fwD_lt {m : Nat} {e : Int} (hm0 : 0 < m) (hm : m < 9007199254740992) (he : -1074 ≤ e ∧ e ≤ 971) : fwD m e < 18446744073709551616 ∧ (dD (fwD m e)).length ≤ 20 := by
  obtain ⟨-, -, -, h⟩ := fw_bounds hm0 hm he
  have h1 : fwB m e ≤ ofQ e (tnF m e) (8 * m) := Nat.le_trans (Nat.div_le_self _ _) (Nat.div_le_self _ _)
  have h2 : fwD m e ≤ fwB m e + 1 := by unfold fwD; split <;> omega
  exact ⟨by omega, dD_len 19 _ (by show _ < 100000000000000000000; omega)⟩
/-- What Shortest writes of an amount. -/
def shT (m : Nat) (e : Int) : List UInt8 := loT (dD (fwD m e)) ((fwK m e : Int) - tnF m e)
theorem wsT_len (z : Int) (h : -99999 ≤ z ∧ z ≤ 99999) : (wsT z).length ≤ 6 := by
  unfold wsT
  have := dD_few (n := z.natAbs) (by omega)
  rw [List.length_cons]
  omega
theorem loT_len (d : List UInt8) (p : Int) (hd : d.length ≤ 20) (hp : -1000 ≤ p ∧ p ≤ 1000) : (loT d p).length ≤ 2000 := by
  unfold loT
  split
  · rw [List.length_append, List.length_replicate]; omega
  · split
    · rw [List.length_append, List.length_cons, List.length_take, List.length_drop]; omega
    · split
      · rw [List.length_cons, List.length_cons, List.length_append, List.length_replicate]; omega
      · have := wsT_len ((d.length : Int) + p - 1) (by omega)
        rw [List.length_append, List.length_cons]
        split
        · rw [List.length_append, List.length_cons, List.length_take, List.length_drop]; omega
        · omega
set_option maxRecDepth 100000 in
set_option maxHeartbeats 1000000 in
theorem shortest_num (b : Nat) (w : World) (hb : b < 18446744073709551616) (hk : pKind b = 1 ∨ pKind b = 2) (hm0 : 0 < pM b) (hm : pM b < 9007199254740992) (he : -1074 ≤ pE b ∧ pE b ≤ 971) (htab : Lib.TabIs Tryz.prog w "internal/strconv.uint64pow10" .u64 Lib.pow10Tab) (hT : ∀ wx, Keep w wx → Lib.TabIs Tryz.prog wx "internal/strconv.uint64pow10" .u64 Lib.pow10Tab) :
    Calls Tryz.prog 57 #[.agg #[.int .i64 52, .int .i64 2047, .int .i64 (-1074)], .int .u64 (b : Int)] w fun e w' => e = .returned (.string ⟨(sgS (pNeg b) (shT (pM b) (pE b))).toArray⟩) ∧ Keep w w' := by
  have hP := fun wx => parts_any b hb wx
  have hkl : pKind b < 4 ∧ pKind b ≤ 4 := by omega
  have hN := fun wx => named_any (pKind b) (by omega) wx
  rw [show nmS (pKind b) = [] by rcases hk with q | q <;> (rw [q]; rfl)] at hN
  obtain ⟨b1, b2, b3, b4⟩ := fw_bounds hm0 hm he
  obtain ⟨t1, -, -⟩ := scale_ok hm0 hm he
  have hbl := (bl_bounds hm0 (by omega)).2.2.2
  have hF := fun wx => fewest_any (pM b) (pE b) wx hm0 hm he hbl (by omega) (by omega) (by omega) b3 (by omega)
  obtain ⟨d1, d2⟩ := fwD_lt hm0 hm he
  have hU := fun wx h => FU_all (fwD (pM b) (pE b)) wx d1 h
  have hK18 : fwK (pM b) (pE b) ≤ 18 := unK_le _ _ _
  have hpb : -1000 ≤ ((fwK (pM b) (pE b) : Int) - tnF (pM b) (pE b)) ∧ ((fwK (pM b) (pE b) : Int) - tnF (pM b) (pE b)) ≤ 1000 := by omega
  have d0 : 1 ≤ (dD (fwD (pM b) (pE b))).length := List.length_pos_iff.2 (dD_ne _)
  have hLy := fun wx h => layOut_any (dD (fwD (pM b) (pE b))) ((fwK (pM b) (pE b) : Int) - tnF (pM b) (pE b)) wx ⟨d0, d2⟩ hpb h
  have hll := loT_len (dD (fwD (pM b) (pE b))) ((fwK (pM b) (pE b) : Int) - tnF (pM b) (pE b)) d2 hpb
  have hS := fun wx => signedF_any (pNeg b) (pKind b) (shT (pM b) (pE b)) (by omega) (by unfold shT; omega) wx
  have hsh : loT (dD (fwD (pM b) (pE b))) ((fwK (pM b) (pE b) : Int) - tnF (pM b) (pE b)) = shT (pM b) (pE b) := rfl
  rw [hsh] at hLy hll
  generalize sgS (pNeg b) (shT (pM b) (pE b)) = RR at *
  generalize shT (pM b) (pE b) = sh at *
  generalize dD (fwD (pM b) (pE b)) = dd at *
  generalize ((fwK (pM b) (pE b) : Int) - tnF (pM b) (pE b)) = pw at *
  generalize fwD (pM b) (pE b) = fd at *
  generalize pNeg b = ng at *
  generalize pKind b = kd at *
  generalize pM b = m at *
  generalize pE b = e at *
  clear b1 b2 b3 b4 t1 hbl d0 d1 d2 hpb hK18 hll hsh hm0 hm he hk hkl
  obtain ⟨w1, hw1⟩ : ∃ w1, w.alloc (.cells #[.int .i64 52, .int .i64 2047, .int .i64 (-1074)] 85) = w1 := ⟨_, rfl⟩
  have k1 : Keep w w1 := by rw [← hw1]; exact (Keep.refl w).alloc _
  have F1 : Fm w1 w.heap.size := by rw [← hw1]; exact Fm.new w
  obtain ⟨f0, f1, f2⟩ := F1.cells
  have HF1 : Hid (Fm w1 w.heap.size) := F1
  have HT : Hid (∀ wx, Keep w wx → Lib.TabIs Tryz.prog wx "internal/strconv.uint64pow10" .u64 Lib.pow10Tab) := hT
  clear F1 hT htab
  go_enter Tryz.func57, Tryz.ntmps57
  go_wp2_with fail
  refine (hP _).mono ?_
  rintro r w2 ⟨rfl, k2⟩
  obtain ⟨g0, g1, g2⟩ := (HF1.out.keep k2).cells
  have k12 := k1.trans k2
  go_wp2_with fail
  refine (hN _).mono ?_
  rintro r w3 ⟨rfl, rfl⟩
  go_wp2_with fail
  refine (hF _).mono ?_
  rintro r w4 ⟨rfl, k4⟩
  have k14 := k12.trans k4
  go_wp2_with fail
  refine (hU _ (HT.out _ k14)).mono ?_
  rintro r w5 ⟨rfl, k5⟩
  have k15 := k14.trans k5
  go_wp2_with fail
  refine (hLy _ (HT.out _ k15)).mono ?_
  rintro r w6 ⟨rfl, k6⟩
  go_wp2_with fail
  refine (hS _).mono ?_
  rintro r w7 ⟨rfl, rfl⟩
  go_wp2_with fail
  go_ret
  exact ⟨rfl, k15.trans k6⟩
theorem kind_parts {b : Nat} (hk : pKind b = 1 ∨ pKind b = 2) : 0 < pM b ∧ pM b < 9007199254740992 ∧ -1074 ≤ pE b ∧ pE b ≤ 971 := by
  unfold pKind at hk
  have h1 : pKept b < 4503599627370496 := Nat.mod_lt _ (by omega)
  have h2 : pField b < 2048 := Nat.mod_lt _ (by omega)
  unfold pM pE
  repeat' split at hk
  all_goals (try omega)
  all_goals (refine ⟨?_, ?_, ?_, ?_⟩ <;> repeat' split)
  all_goals omega
set_option maxRecDepth 100000 in
/-- Shortest, of a finite number that is not nought. -/
theorem Shortest_num (b : Nat) (w : World) (hb : b < 18446744073709551616) (hk : pKind b = 1 ∨ pKind b = 2) (hT : ∀ wx, Keep w wx → Lib.TabIs Tryz.prog wx "internal/strconv.uint64pow10" .u64 Lib.pow10Tab) :
    Calls Tryz.prog 21 #[.float .f64 b] w fun e w' => e = .returned (.string ⟨(sgS (pNeg b) (shT (pM b) (pE b))).toArray⟩) ∧ Keep w w' := by
  obtain ⟨p1, p2, p3, p4⟩ := kind_parts hk
  have hbn := fun wx => binary64_any wx
  have h34 := fun wx => f64bits b wx
  have hs := fun wx (k : Keep w wx) => shortest_num b wx hb hk p1 p2 ⟨p3, p4⟩ (hT wx k) (fun wy ky => hT wy (k.trans ky))
  generalize sgS (pNeg b) (shT (pM b) (pE b)) = RR at *
  have HS : Hid (∀ wx, Keep w wx → Calls Tryz.prog 57 #[.agg #[.int .i64 52, .int .i64 2047, .int .i64 (-1074)], .int .u64 (b : Int)] wx fun e w' => e = .returned (.string ⟨RR.toArray⟩) ∧ Keep wx w') := hs
  clear hs hT p1 p2 p3 p4 hk
  go_enter Tryz.func21, Tryz.ntmps21
  go_wp2_with fail
  refine (hbn _).mono ?_
  rintro e w1 ⟨rfl, k1⟩
  go_wp2_with fail
  refine (HS.out _ k1).mono ?_
  rintro e w2 ⟨rfl, k2⟩
  go_wp2_with fail
  go_ret
  exact ⟨rfl, k1.trans k2⟩
end Go.Proofs.YtpdjpjkieafnbaaGreatDoor.Li
